import Derived.Test.YtffcnonhhfhlhaaDoorRgC
import Derived.Deep.RegionHeld
import Derived.RangeFuncNested
import Derived.RangeFuncBound
import Derived.RangeFuncCalls
import Derived.RangeFuncLeaves
import Derived.Shelf.Abstract
import Derived.Shelf.RegionOpen
import Derived.OwnWalkIn
import Derived.TacticsInMore
import Derived.LoopNIn
import Derived.LoopIn
import Derived.LoopTactic
namespace Go.Proofs.YtffcnonhhfhlhaaDoor.Rg
open Go.RowKit Go.Shelf Go.Sort
open Go.Proofs.YtffcnonhhfhlhaaDoor.It
attribute [local go_sem] Oper.semAt_some
set_option linter.unusedVariables false

theorem plc_iff : ∀ {L : List Sg} {a b k : Int}, Cov a L b → ∀ i s, L[i]? = some s → (k ≤ s.hi ↔ plc L k ≤ i)
  | [], a, b, k, h, i, s, hs => by simp at hs
  | t :: r, a, b, k, h, 0, s, hs => by
    simp at hs; subst hs
    simp only [plc]
    split
    · simp_all
    · simp_all
  | t :: r, a, b, k, h, i + 1, s, hs => by
    have ih := plc_iff (k := k) h.2.2 i s (by simpa using hs)
    have hm := cov_mem h.2.2 s (List.mem_of_getElem? (by simpa using hs))
    simp only [plc]
    split
    · rename_i e; exact ⟨fun _ => by omega, fun _ => by omega⟩
    · rw [ih]; omega
section
variable {B b : Nat} {w w' : World} {lim : Int} {v : Value} {L : List Sg}

theorem kp_grow (w : World) (m : Nat) (os : Array Obj) : Kp Nu w (grow (w.drewN m) os) := Kp.of_below (below_grown_sl _ _ _ _ (Nat.le_refl _))

set_option maxHeartbeats 1000000 in
theorem place_any (h : Tb B w b lim v L) (key : Int) :
    Calls Tryd.prog 72 #[.pointer (some ⟨b, 0, none⟩), .int .u64 key] w fun e w' => e = .returned (.int .i64 (plc L key)) ∧ Kp Nu w w' := by
  have K2 : Kp Nu w ((w.alloc (.cells #[.pointer (some ⟨b, 0, none⟩)] 27)).alloc (.cells #[.int .u64 key] 23)) := (Kp.alloc w _ Nu).andAlloc _
  have hl : (L.length : Int) ≤ 8192 := by have := h.len; have := h.lim1; omega
  have T2 := h.nu K2
  have x0 : ((w.alloc (.cells #[.pointer (some ⟨b, 0, none⟩)] 27)).alloc (.cells #[.int .u64 key] 23)).heap[w.heap.size]? = some (.cells #[.pointer (some ⟨b, 0, none⟩)] 27 (0, 0)) := (Below.heap_alloc _ _ _ (by simp)).trans (heap_alloc_new w _)
  have x1 : ((w.alloc (.cells #[.pointer (some ⟨b, 0, none⟩)] 27)).alloc (.cells #[.int .u64 key] 23)).heap[w.heap.size + 1]? = some (.cells #[.int .u64 key] 23 (0, 0)) := by
    have := heap_alloc_new (w.alloc (.cells #[.pointer (some ⟨b, 0, none⟩)] 27)) (.cells #[.int .u64 key] 23)
    rwa [World.size_alloc] at this
  generalize hW : (w.alloc (.cells #[.pointer (some ⟨b, 0, none⟩)] 27)).alloc (.cells #[.int .u64 key] 23) = W at K2 T2 x0 x1
  have SE := Any.sort_Search Tryd.search 88 #[.pointer (some ⟨w.heap.size + 1, 0, none⟩), .pointer (some ⟨w.heap.size, 0, none⟩)] L.length (fun i => ((L[i]?).map fun s => decide (key ≤ s.hi)).getD true) W (enters_of Tryd.func88 (by kernel_rfl) rfl) (by omega)
    (fun m os i hi => by
      have kk := kp_grow W m os
      refine (place1_any (T2.nu kk) (w.heap.size + 1) w.heap.size key ((kk.block _ (blk_lt x1) (fun h => h)).trans x1) ((kk.block _ (blk_lt x0) (fun h => h)).trans x0) i hi).mono ?_
      rintro e w' ⟨rfl, rfl⟩
      exact ⟨rfl, 1, #[], by rw [grow_empty]; rfl⟩)
    (fun a c hac hc ha => by
      have e1 : L[a]? = some L[a] := List.getElem?_eq_getElem (by omega)
      have e2 : L[c]? = some L[c] := List.getElem?_eq_getElem hc
      simp only [e1, e2, Option.map_some, Option.getD_some, decide_eq_true_eq] at ha ⊢
      rw [plc_iff h.tab.cov a _ e1] at ha
      rw [plc_iff h.tab.cov c _ e2]
      omega)
  rw [count_plc h.tab.cov] at SE
  change Calls Tryd.prog 87 _ _ _ at SE
  have c1 := T2.c1
  obtain ⟨r, cap, e, _⟩ := T2.row
  subst e
  have HK := hide K2
  subst hW
  generalize plc L key = PK at *
  generalize L.length = N at *
  clear T2 h x0 x1 K2
  go_enter Tryd.func72, Tryd.ntmps72
  go_wp2_with (go_at_call 87; refine SE.mono ?_; rintro e w' ⟨rfl, q, os, rfl⟩)
  go_ret
  exact ⟨rfl, HK.out.andNu (kp_grow _ _ _)⟩

set_option maxHeartbeats 1000000 in
/-- the maker: the list of now, from the key's segment on, in a box -/
theorem from_any (h : Tb B w b lim v L) (key : Int) (k0 : 0 ≤ key) (k1 : key < 18446744073709551616) :
    Calls Tryd.prog 44 #[.pointer (some ⟨b, 0, none⟩), .int .u64 key] w fun e w' => ∃ Bn r cap, e = .returned (.func (.func 73) #[] #[.pointer (some ⟨Bn, 0, none⟩)]) ∧ w.heap.size ≤ Bn ∧ w'.heap[Bn]? = some (.cells #[.slice (some ⟨r, plc L key * 3, none⟩) (L.drop (plc L key)).length cap] 22 (0, 0)) ∧ v.ownBlock = some r ∧ Kp Nu w w' := by
  have mixed : Tryd.prog.follows .mixedOrders = true := by kernel_rfl
  have K1 : Kp Nu w (w.alloc (.cells #[.slice none 0 0] 22)) := Kp.alloc w _ Nu
  have MA := made_any (h.nu K1)
  have PL := place_any (h.nu K1.drew) key
  obtain ⟨r, cap, e, cur, hcur⟩ := h.row
  have hp : plc L key < L.length := h.tab.plc_lt k0 k1
  have hcap : L.length ≤ cap := by
    rcases h.own.2 with ⟨_, h0⟩ | ⟨r', cap', cur', e', hB, hg, h1, h2, h3, h4⟩
    · have := h.tab.ne; omega
    · rw [e] at e'; cases e'; exact h1
  have hbw : b < w.heap.size := blk_lt h.blk
  have c1 := (h.nu K1).c1
  have hl : (L.length : Int) ≤ 8192 := by have := h.len; have := h.lim1; omega
  have CC : ∀ W, Kp Nu (w.alloc (.cells #[.slice none 0 0] 22)) W → W.cell? ⟨b, 1, none⟩ = some v := fun W k => ((h.nu K1).nu k).c1
  have CS : ∀ W x, Kp Nu (w.alloc (.cells #[.slice none 0 0] 22)) W → (W.setCell ⟨w.heap.size, 0, none⟩ x).cell? ⟨b, 1, none⟩ = some v := fun W x k =>
    (World.cell?_of_block (Below.heap_setCell W ⟨w.heap.size, 0, none⟩ x b (by show b ≠ w.heap.size; omega))).trans (CC W k)
  have HB : Hid (∀ W, Kp Nu (w.alloc (.cells #[.slice none 0 0] 22)) W → W.heap[w.heap.size]? = some (.cells #[.slice none 0 0] 22 (0, 0))) := fun W k => new_at w _ k
  have hd : (L.drop (plc L key)).length = L.length - plc L key := by simp
  rw [hd]
  subst e
  generalize plc L key = p at *
  generalize L.length = N at *
  have hpI : (p : Int) ≤ (N : Int) := by omega
  have hne : ¬ cap = p := by omega
  clear hp hcap
  have hp0 : (0 : Int) ≤ (p : Int) := by omega
  have htn : ((p : Int)).toNat = p := by omega
  clear h hd hcur
  go_enter Tryd.func44, Tryd.ntmps44
  go_wp2_with (go_at_call 50; refine MA.mono ?_; rintro e w' ⟨rfl, rfl⟩)
  clear MA
  go_region_held (fun W => W.cell? ⟨b, 1, none⟩ = some (.slice (some ⟨r, 0, none⟩) N cap)) (first | (refine CS _ _ ?_; repeat (first | assumption | exact Kp.refl _ _ | apply Kp.andAlloc | apply Kp.drew)) | (refine CC _ ?_; repeat (first | assumption | exact Kp.refl _ _ | apply Kp.andAlloc | apply Kp.drew))) (first | (go_at_call 72; refine PL.mono ?_; rintro e w2 ⟨rfl, hk2⟩; have hk3 : Kp Nu (w.alloc (.cells #[.slice none 0 0] 22)) w2 := (Kp.refl Nu _).drew.andNu hk2; have fz := free3 (HB.out _ hk3) 0; have cz := cell1 (HB.out _ hk3)))
  all_goals go_wp2
  all_goals go_ret
  all_goals
    refine ⟨w.heap.size, r, _, rfl, Nat.le_refl _, set3 (HB.out _ (by assumption)) 0 _, rfl, ?_⟩
    exact ((Kp.alloc w _ Nu).andNu (by assumption)).andSet _ _ (.inl (Nat.le_refl _))
end
end Go.Proofs.YtffcnonhhfhlhaaDoor.Rg
namespace Go.Proofs.YtffcnonhhfhlhaaDoor.Rg
open Go.RowKit Go.Shelf Go.Sort
open Go.Proofs.YtffcnonhhfhlhaaDoor.It
attribute [local go_sem] Oper.semAt_some
set_option linter.unusedVariables false

/-- a block's cells hold these segments from a place on -/
def Row (cur : Array Value) (off : Nat) (M : List Sg) : Prop := ∀ i s, M[i]? = some s → cur[off + i * 3]? = some (.int .u64 s.lo) ∧ cur[off + i * 3 + 1]? = some (.int .u64 s.hi) ∧ cur[off + i * 3 + 2]? = some (.int .u8 s.h)
theorem Row.drop {cur : Array Value} {off : Nat} {M : List Sg} (h : Row cur off M) (p : Nat) : Row cur (off + p * 3) (M.drop p) := fun i s hs => by
  have := h (p + i) s (by simpa using hs)
  have e : off + p * 3 + i * 3 = off + (p + i) * 3 := by omega
  rw [e]; exact this

theorem Tb.cur {B b : Nat} {w : World} {lim : Int} {v : Value} {L : List Sg} (h : Tb B w b lim v L) {r : Nat} (hr : v.ownBlock = some r) : ∃ cur, w.heap[r]? = some (.cells cur 26 (0, 0)) ∧ Row cur 0 L := by
  obtain ⟨r', cap, e, cur, hc⟩ := h.row
  subst e
  simp [Value.ownBlock] at hr
  subst hr
  refine ⟨cur, hc, fun i s hs => ?_⟩
  obtain ⟨r', cap', e', x0, x1, x2⟩ := row_at h.own hs
  cases e'
  simp only [World.cell?, hc] at x0 x1 x2
  simpa using And.intro x0 (And.intro x1 x2)

set_option maxRecDepth 100000 in
set_option maxHeartbeats 1000000 in
theorem from1_in (n : Nat) (l Bn r off cap : Nat) (M : List Sg) (cur : Array Value) (hM : M.length ≤ 8192) (hrow : Row cur off M) (J Jx : List Sg → World → Prop)
    (hY : ∀ pre x W, J pre W → pre.length < M.length → YieldAt Fence.wide (n - 1) Tryd.prog l #[enc x] W fun e W' =>
      (e = .returned (.bool true) ∧ J (pre ++ [x]) W' ∧ Kc (fun k _ => k = r) W W') ∨ (e = .returned (.bool false) ∧ Jx (pre ++ [x]) W'))
    (W : World) (hJ : AbidesFrom W.heap.size J) (hc : W.heap[Bn]? = some (.cells #[.slice (some ⟨r, off, none⟩) M.length cap] 22 (0, 0))) (hr : W.heap[r]? = some (.cells cur 26 (0, 0))) (h0 : J [] W) :
    CallsIn Fence.wide n Tryd.prog 73 #[.func (.yield l) #[] #[], .pointer (some ⟨Bn, 0, none⟩)] W fun e W' => (∃ v, e = .returned v) ∧
      ((∃ ys, ys = M ∧ J ys W') ∨ (∃ pre, pre <+: M ∧ Jx pre W')) := by
  refine callsIn_of_wp Tryd.func73 rfl trivial ?_ rfl
  simp only [Tryd.ntmps73, List.size_toArray, List.length_cons, List.length_nil, Nat.reduceAdd, Nat.reduceSub, Array.replicate_succ, Array.replicate_zero, List.push_toArray, List.append_toArray, List.nil_append, List.cons_append]
  have hcc := cell1 hc
  have HROW := hide hrow
  obtain ⟨N, hN⟩ : ∃ N, M.length = N := ⟨_, rfl⟩
  rw [hN] at hcc hY hM
  have HY := hide hY
  have HJ := hide hJ
  clear hrow hc hY hJ
  have HN := hide hN
  clear hN
  gi_wp2
  gi_loopw [7] (fun i wr => ∃ k : Nat, i = .int .i64 (k : Int) ∧ k ≤ N ∧ wr.heap[r]? = some (.cells cur 26 (0, 0)) ∧ Hid (J (M.take k) wr))
    (fun i _ => N - (intOf i).toNat)
  case atStart => exact ⟨0, rfl, Nat.zero_le _, hr, show J (M.take 0) W by simpa using h0⟩
  case round =>
    obtain ⟨k, rfl, hk, hrw, hJk⟩ := hrel
    by_cases hlt : k < N
    · have hkM : k < M.length := by rw [HN.out]; exact hlt
      obtain ⟨s, hs⟩ : ∃ s, M[k]? = some s := ⟨_, List.getElem?_eq_getElem hkM⟩
      obtain ⟨x0, x1, x2⟩ := HROW.out k s hs
      have y0 : wr.cell? ⟨r, off + k * 3, none⟩ = some (.int .u64 s.lo) := by simp [World.cell?, hrw, x0]
      have y1 : wr.cell? ⟨r, off + k * 3 + 1, none⟩ = some (.int .u64 s.hi) := by simp [World.cell?, hrw, x1]
      have y2 : wr.cell? ⟨r, off + k * 3 + 2, none⟩ = some (.int .u8 s.h) := by simp [World.cell?, hrw, x2]
      have hltI : (k : Int) < (N : Int) := by omega
      have hk0 : (0 : Int) ≤ (k : Int) := by omega
      have hkN : (k : Int) ≤ 8192 := by omega
      have hJ2 : J (M.take k) (wr.alloc (.cells #[.int .u64 s.lo, .int .u64 s.hi, .int .u8 s.h] 26)) := HJ.out _ _ _ none hJk.out (World.grownBy_alloc wr _ none) (fun r e => by cases e)
      obtain ⟨fn, tmps, assign, body, hy, hR⟩ := HY.out (M.take k) s _ hJ2 (by simp; omega)
      have HT : Hid (M.take k ++ [s] = M.take (k + 1)) := by
        show _ = _
        rw [List.take_add_one, hs]; rfl
      have HB : Hid ((wr.alloc (.cells #[.int .u64 s.lo, .int .u64 s.hi, .int .u8 s.h] 26)).heap[r]? = some (.cells cur 26 (0, 0))) := (Below.heap_alloc _ _ _ (blk_lt hrw)).trans hrw
      unfold enc at hy
      clear hJ2 hJk x0 x1 x2 hs hrw
      gi_wp2
      refine ⟨fun h => (by cases h), hR.mono ?_⟩
      rintro e W3 (⟨rfl, hJ4, hk3⟩ | ⟨rfl, hJx3⟩)
      · have hr3 := hk3 r _ _ _ rfl HB.out
        gi_wp2
        go_roundw
        case rel => exact ⟨k + 1, by go_num, by omega, hr3, by rw [← HT.out]; exact hJ4⟩
        case measure => simp [intOf]; omega
      · gi_wp2
        refine bodyPost_ret (results_none rfl _ _ _) rfl ?_
        exact ⟨⟨_, rfl⟩, .inr ⟨_, ⟨M.drop (k + 1), by rw [HT.out]; simp⟩, hJx3⟩⟩
    · have hge : ¬ (k : Int) < (N : Int) := by omega
      have HF : Hid (J M wr) := by
        have := hJk.out
        rwa [List.take_of_length_le (by rw [HN.out]; omega)] at this
      clear hJk
      gi_wp2
      go_end0
      first | exact ⟨⟨_, rfl⟩, .inl ⟨M, rfl, HF.out⟩⟩ | exact ⟨⟨_, rfl⟩, .inl HF.out⟩

theorem from_stops (n Bn r off cap : Nat) (M : List Sg) (cur : Array Value) (hM : M.length ≤ 8192) (hrow : Row cur off M) (w : World) (hc : w.heap[Bn]? = some (.cells #[.slice (some ⟨r, off, none⟩) M.length cap] 22 (0, 0))) (hr : w.heap[r]? = some (.cells cur 26 (0, 0))) :
    SeqStopsK Fence.wide n Tryd.prog 73 #[.pointer (some ⟨Bn, 0, none⟩)] (fun x : Sg => #[enc x]) (Kc (fun k _ => k = r)) (fun ys => ys = M) (fun pre => pre <+: M) M.length w := fun l J Jx W hW hJ _ hY h0 =>
  from1_in n l Bn r off cap M cur hM hrow J Jx hY W hJ ((hW.block Bn (blk_lt hc)).trans hc) ((hW.block r (blk_lt hr)).trans hr) h0
end Go.Proofs.YtffcnonhhfhlhaaDoor.Rg
