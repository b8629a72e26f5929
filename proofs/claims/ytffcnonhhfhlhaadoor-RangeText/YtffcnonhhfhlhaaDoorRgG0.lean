import Derived.Test.YtffcnonhhfhlhaaDoorRgD
import Derived.Laws.EntriesVeiled
import Derived.OrdersIn
namespace Go.Proofs.YtffcnonhhfhlhaaDoor.Rg
open Go.RowKit Go.Shelf Go.Sort
open Go.Proofs.YtffcnonhhfhlhaaDoor.It
attribute [local go_sem] Oper.semAt_some
set_option linter.unusedVariables false

/-- a block's cells hold these segments from a place on -/
def Row (cur : Array Value) (off : Nat) (M : List Sg) : Prop := ∀ i s, M[i]? = some s → cur[off + i * 3]? = some (.int .u64 s.lo) ∧ cur[off + i * 3 + 1]? = some (.int .u64 s.hi) ∧ cur[off + i * 3 + 2]? = some (.int .u8 s.h)
theorem Row.drop {cur : Array Value} {off : Nat} {M : List Sg} (h : Row cur off M) (p : Nat) : Row cur (off + p * 3) (M.drop p) := fun i s hs => by
  have := h (p + i) s (by simpa using hs)
  have e : off + p * 3 + i * 3 = off + (p + i) * 3 := by omega
  rw [e]; exact this

theorem Tb.cur {B b : Nat} {w : World} {lim : Int} {v : Value} {L : List Sg} (h : Tb B w b lim v L) {r : Nat} (hr : v.ownBlock = some r) : ∃ cur, w.heap[r]? = some (.cells cur 26 (0, 0)) ∧ Row cur 0 L := by
  obtain ⟨r', cap, e, cur, hc⟩ := h.row
  subst e
  simp [Value.ownBlock] at hr
  subst hr
  refine ⟨cur, hc, fun i s hs => ?_⟩
  obtain ⟨r', cap', e', x0, x1, x2⟩ := row_at h.own hs
  cases e'
  simp only [World.cell?, hc] at x0 x1 x2
  simpa using And.intro x0 (And.intro x1 x2)

set_option maxRecDepth 100000 in
set_option maxHeartbeats 1000000 in
theorem from1_in (n : Nat) (l Bn r off cap : Nat) (M : List Sg) (cur : Array Value) (hM : M.length ≤ 8192) (hrow : Row cur off M) (J Jx : List Sg → World → Prop)
    (hY : ∀ pre x W, J pre W → pre.length < M.length → YieldAt Fence.wide (n - 1) Tryd.prog l #[enc x] W fun e W' =>
      (e = .returned (.bool true) ∧ J (pre ++ [x]) W' ∧ Kc (fun k _ => k = r) W W') ∨ (e = .returned (.bool false) ∧ Jx (pre ++ [x]) W'))
    (W : World) (hJ : AbidesFrom W.heap.size J) (hc : W.heap[Bn]? = some (.cells #[.slice (some ⟨r, off, none⟩) M.length cap] 22 (0, 0))) (hr : W.heap[r]? = some (.cells cur 26 (0, 0))) (h0 : J [] W) :
    CallsIn Fence.wide n Tryd.prog 73 #[.func (.yield l) #[] #[], .pointer (some ⟨Bn, 0, none⟩)] W fun e W' => (∃ v, e = .returned v) ∧
      ((∃ ys, ys = M ∧ J ys W') ∨ (∃ pre, pre <+: M ∧ Jx pre W')) := by
  refine callsIn_of_wp Tryd.func73 rfl trivial ?_ rfl
  simp only [Tryd.ntmps73, List.size_toArray, List.length_cons, List.length_nil, Nat.reduceAdd, Nat.reduceSub, Array.replicate_succ, Array.replicate_zero, List.push_toArray, List.append_toArray, List.nil_append, List.cons_append]
  have hcc := cell1 hc
  have HROW := hide hrow
  obtain ⟨N, hN⟩ : ∃ N, M.length = N := ⟨_, rfl⟩
  rw [hN] at hcc hY hM
  have HY := hide hY
  have HJ := hide hJ
  clear hrow hc hY hJ
  have HN := hide hN
  clear hN
  gi_wp2
  gi_loopw [7] (fun i wr => ∃ k : Nat, i = .int .i64 (k : Int) ∧ k ≤ N ∧ wr.heap[r]? = some (.cells cur 26 (0, 0)) ∧ Hid (J (M.take k) wr))
    (fun i _ => N - (intOf i).toNat)
  case atStart => exact ⟨0, rfl, Nat.zero_le _, hr, show J (M.take 0) W by simpa using h0⟩
  case round =>
    obtain ⟨k, rfl, hk, hrw, hJk⟩ := hrel
    by_cases hlt : k < N
    · have hkM : k < M.length := by rw [HN.out]; exact hlt
      obtain ⟨s, hs⟩ : ∃ s, M[k]? = some s := ⟨_, List.getElem?_eq_getElem hkM⟩
      obtain ⟨x0, x1, x2⟩ := HROW.out k s hs
      have y0 : wr.cell? ⟨r, off + k * 3, none⟩ = some (.int .u64 s.lo) := by simp [World.cell?, hrw, x0]
      have y1 : wr.cell? ⟨r, off + k * 3 + 1, none⟩ = some (.int .u64 s.hi) := by simp [World.cell?, hrw, x1]
      have y2 : wr.cell? ⟨r, off + k * 3 + 2, none⟩ = some (.int .u8 s.h) := by simp [World.cell?, hrw, x2]
      have hltI : (k : Int) < (N : Int) := by omega
      have hk0 : (0 : Int) ≤ (k : Int) := by omega
      have hkN : (k : Int) ≤ 8192 := by omega
      have hJ2 : J (M.take k) (wr.alloc (.cells #[.int .u64 s.lo, .int .u64 s.hi, .int .u8 s.h] 26)) := HJ.out _ _ _ none hJk.out (World.grownBy_alloc wr _ none) (fun r e => by cases e)
      obtain ⟨fn, tmps, assign, body, hy, hR⟩ := HY.out (M.take k) s _ hJ2 (by simp; omega)
      have HT : Hid (M.take k ++ [s] = M.take (k + 1)) := by
        show _ = _
        rw [List.take_add_one, hs]; rfl
      have HB : Hid ((wr.alloc (.cells #[.int .u64 s.lo, .int .u64 s.hi, .int .u8 s.h] 26)).heap[r]? = some (.cells cur 26 (0, 0))) := (Below.heap_alloc _ _ _ (blk_lt hrw)).trans hrw
      unfold enc at hy
      clear hJ2 hJk x0 x1 x2 hs hrw
      gi_wp2
      refine ⟨fun h => (by cases h), hR.mono ?_⟩
      rintro e W3 (⟨rfl, hJ4, hk3⟩ | ⟨rfl, hJx3⟩)
      · have hr3 := hk3 r _ _ _ rfl HB.out
        gi_wp2
        go_roundw
        case rel => exact ⟨k + 1, by go_num, by omega, hr3, by rw [← HT.out]; exact hJ4⟩
        case measure => simp [intOf]; omega
      · gi_wp2
        refine bodyPost_ret (results_none rfl _ _ _) rfl ?_
        exact ⟨⟨_, rfl⟩, .inr ⟨_, ⟨M.drop (k + 1), by rw [HT.out]; simp⟩, hJx3⟩⟩
    · have hge : ¬ (k : Int) < (N : Int) := by omega
      have HF : Hid (J M wr) := by
        have := hJk.out
        rwa [List.take_of_length_le (by rw [HN.out]; omega)] at this
      clear hJk
      gi_wp2
      go_end0
      first | exact ⟨⟨_, rfl⟩, .inl ⟨M, rfl, HF.out⟩⟩ | exact ⟨⟨_, rfl⟩, .inl HF.out⟩

theorem from_stops (n Bn r off cap : Nat) (M : List Sg) (cur : Array Value) (hM : M.length ≤ 8192) (hrow : Row cur off M) (w : World) (hc : w.heap[Bn]? = some (.cells #[.slice (some ⟨r, off, none⟩) M.length cap] 22 (0, 0))) (hr : w.heap[r]? = some (.cells cur 26 (0, 0))) :
    SeqStopsK Fence.wide n Tryd.prog 73 #[.pointer (some ⟨Bn, 0, none⟩)] (fun x : Sg => #[enc x]) (Kc (fun k _ => k = r)) (fun ys => ys = M) (fun pre => pre <+: M) M.length w := fun l J Jx W hW hJ _ hY h0 =>
  from1_in n l Bn r off cap M cur hM hrow J Jx hY W hJ ((hW.block Bn (blk_lt hc)).trans hc) ((hW.block r (blk_lt hr)).trans hr) h0
end Go.Proofs.YtffcnonhhfhlhaaDoor.Rg
namespace Go.Proofs.YtffcnonhhfhlhaaDoor.Rg
open Go.RowKit Go.Shelf Go.Sort
open Go.Proofs.YtffcnonhhfhlhaaDoor.It
attribute [local go_sem] Oper.semAt_some
set_option linter.unusedVariables false

theorem set_set3 {w : World} {b : Nat} {x y z x' y' : Value} {t : TypeId} (h : w.heap[b]? = some (.cells #[x, y, z] t (0, 0))) : ((w.setCell ⟨b, 0, none⟩ x').setCell ⟨b, 1, none⟩ y').heap[b]? = some (.cells #[x', y', z] t (0, 0)) := by
  rw [set3 (set3 h 0 x') 1 y']; rfl

set_option maxHeartbeats 1000000 in
theorem cut_any (s : Sg) (lo hi : Int) (w : World) :
    Calls Tryd.prog 46 #[enc s, .int .u64 lo, .int .u64 hi] w fun e w' => e = .returned (enc (cutS lo hi s)) ∧ Kp Nu w w' := by
  have mixed : Tryd.prog.follows .mixedOrders = true := by kernel_rfl
  unfold enc cutS
  go_enter Tryd.func46, Tryd.ntmps46
  go_wp2
  refine bodyPost_ret (v := .agg #[.int .u64 (max s.lo lo), .int .u64 (min s.hi hi), .int .u8 s.h]) (by simp [results, Tryd.results46, go_sem]) rfl ?_
  exact ⟨rfl, (Kp.alloc w _ Nu).andAlloc _⟩

set_option maxHeartbeats 1000000 in
theorem within_any {B b : Nat} {w : World} {lim : Int} {v : Value} {L : List Sg} (h : Tb B w b lim v L) (lo hi : Int) (k0 : 0 ≤ lo) (k1 : lo < 18446744073709551616) :
    Calls Tryd.prog 14 #[.pointer (some ⟨b, 0, none⟩), .int .u64 lo, .int .u64 hi] w fun e w' => ∃ Br Bn r cap, e = .returned (.func (.func 45) #[] #[.pointer (some ⟨w.heap.size, 0, none⟩), .pointer (some ⟨w.heap.size + 1, 0, none⟩), .pointer (some ⟨Br, 0, none⟩)]) ∧
      w'.heap[w.heap.size]? = some (.cells #[.int .u64 lo] 23 (0, 0)) ∧ w'.heap[w.heap.size + 1]? = some (.cells #[.int .u64 hi] 23 (0, 0)) ∧ w'.heap[Br]? = some (.cells #[.func (.func 73) #[] #[.pointer (some ⟨Bn, 0, none⟩)]] 39 (0, 0)) ∧
      w'.heap[Bn]? = some (.cells #[.slice (some ⟨r, plc L lo * 3, none⟩) (L.drop (plc L lo)).length cap] 22 (0, 0)) ∧ v.ownBlock = some r ∧ Kp Nu w w' := by
  have K2 : Kp Nu w ((w.alloc (.cells #[.int .u64 lo] 23)).alloc (.cells #[.int .u64 hi] 23)) := (Kp.alloc w _ Nu).andAlloc _
  have FR := from_any (h.nu K2) lo k0 k1
  have x0 : ((w.alloc (.cells #[.int .u64 lo] 23)).alloc (.cells #[.int .u64 hi] 23)).heap[w.heap.size]? = some (.cells #[.int .u64 lo] 23 (0, 0)) := (Below.heap_alloc _ _ _ (by simp)).trans (heap_alloc_new w _)
  have x1 : ((w.alloc (.cells #[.int .u64 lo] 23)).alloc (.cells #[.int .u64 hi] 23)).heap[w.heap.size + 1]? = some (.cells #[.int .u64 hi] 23 (0, 0)) := by
    have := heap_alloc_new (w.alloc (.cells #[.int .u64 lo] 23)) (.cells #[.int .u64 hi] 23)
    rwa [World.size_alloc] at this
  have HX := hide (And.intro x0 (And.intro x1 K2))
  clear x0 x1 K2 h
  go_enter Tryd.func14, Tryd.ntmps14
  go_wp2_with (go_at_call 44; refine FR.mono ?_; rintro e w3 ⟨Bn, r, cap, rfl, hBn, hb, hr, hk⟩)
  go_ret
  have kk := (Kp.alloc w3 (.cells #[.func (.func 73) #[] #[.pointer (some ⟨Bn, 0, none⟩)]] 39) Nu)
  refine ⟨w3.heap.size, Bn, r, cap, rfl, ?_, ?_, heap_alloc_new w3 _, ?_, hr, (HX.out.2.2.andNu hk).andNu kk⟩
  · exact ((hk.andNu kk).block _ (blk_lt HX.out.1) (fun h => h)).trans HX.out.1
  · exact ((hk.andNu kk).block _ (blk_lt HX.out.2.1) (fun h => h)).trans HX.out.2.1
  · exact (kk.block _ (blk_lt hb) (fun h => h)).trans hb
end Go.Proofs.YtffcnonhhfhlhaaDoor.Rg
namespace Go.Proofs.YtffcnonhhfhlhaaDoor.Ord
open Go
set_option linter.unusedVariables false

theorem ready_spec {md : Region.Mode} {ops : Array Oper} {listed : Array Bool} {i : Nat} (h : i ∈ Region.ready md ops listed) : i < ops.size ∧ listed.getD i true = false := by
  unfold Region.ready at h
  rw [List.mem_filter] at h
  obtain ⟨h1, h2⟩ := h
  rw [Bool.and_eq_true, Bool.not_eq_true'] at h2
  exact ⟨List.mem_range.1 h1, h2.1⟩

theorem mem_ready {md : Region.Mode} {ops : Array Oper} {listed : Array Bool} {i : Nat} (h : i ∈ Region.ready md ops listed) : i < ops.size ∧ (!listed.getD i true && ((ops[i]?).map (·.after.all fun e => !Region.binds md e || listed.getD e.on false)).getD false) = true := by
  unfold Region.ready at h
  rw [List.mem_filter] at h
  exact ⟨List.mem_range.1 h.1, h.2⟩
theorem not_ready {md : Region.Mode} {ops : Array Oper} {listed : Array Bool} {i : Nat} (h : Region.ready md ops listed = []) (hi : i < ops.size) : (!listed.getD i true && ((ops[i]?).map (·.after.all fun e => !Region.binds md e || listed.getD e.on false)).getD false) = false := by
  rw [Bool.eq_false_iff]
  intro hb
  have : i ∈ Region.ready md ops listed := by
    unfold Region.ready
    rw [List.mem_filter]
    exact ⟨List.mem_range.2 hi, hb⟩
  rw [h] at this
  cases this
theorem lt_cases11 {i : Nat} (h : i < 11) : i = 0 ∨ i = 1 ∨ i = 2 ∨ i = 3 ∨ i = 4 ∨ i = 5 ∨ i = 6 ∨ i = 7 ∨ i = 8 ∨ i = 9 ∨ i = 10 := by omega

theorem lt_cases13 {i : Nat} (h : i < 13) : i = 0 ∨ i = 1 ∨ i = 2 ∨ i = 3 ∨ i = 4 ∨ i = 5 ∨ i = 6 ∨ i = 7 ∨ i = 8 ∨ i = 9 ∨ i = 10 ∨ i = 11 ∨ i = 12 := by omega
def sel (l : Bool) (v : Value) : Value := if l then v else undef
theorem sel_t (v : Value) : sel true v = v := rfl
theorem sel_f (v : Value) : sel false v = undef := rfl
theorem count_list : ∀ (l : List Bool) (i : Nat), l[i]? = some false → (l.set i true).count false + 1 = l.count false
  | [], i, h => by simp at h
  | x :: t, 0, h => by
    simp at h
    subst h
    simp
  | x :: t, i + 1, h => by
    have := count_list t i (by simpa using h)
    rw [List.set_cons_succ, List.count_cons, List.count_cons]
    omega
theorem count_set {listed : Array Bool} {i : Nat} (h : listed.getD i true = false) : (listed.setIfInBounds i true).toList.count false + 1 = listed.toList.count false := by
  rw [Array.toList_setIfInBounds]
  refine count_list _ _ ?_
  rw [Array.getD_eq_getD_getElem?] at h
  rw [Array.getElem?_toList]
  cases hx : listed[i]? with
  | none => rw [hx] at h; cases h
  | some b => rw [hx] at h; exact congrArg some h

/-- a region that draws, by what holds whatever has been listed: no order is gone through -/
theorem wpAnyIn_inv {F : Fence} {n : Nat} {P : Program} {ops : Array Oper} {Q : Exit → Act → World → Prop} {md : Region.Mode} (Inv : Array Bool → Act → World → Prop)
    (hstep : ∀ listed a w i, Inv listed a w → i ∈ Region.ready md ops listed → wpOpIn F n P ops Q i (fun a' w' => Inv (listed.setIfInBounds i true) a' w') a w)
    (hend : ∀ listed a w, Inv listed a w → Region.ready md ops listed = [] → Q .normal a w) :
    ∀ fuel listed a w, Inv listed a w → listed.toList.count false ≤ fuel → wpAnyIn F n P md ops Q fuel listed a w := by
  intro fuel
  induction fuel with
  | zero =>
    intro listed a w hI hc
    have hr : Region.ready md ops listed = [] := by
      rw [List.eq_nil_iff_forall_not_mem]
      intro i hi
      have := count_set (ready_spec hi).2
      omega
    exact ⟨hr, hend listed a w hI hr⟩
  | succ fuel ih =>
    intro listed a w hI hc
    refine ⟨fun hr => hend listed a w hI hr, fun i hi => ?_⟩
    have := count_set (ready_spec hi).2
    exact wpOpIn_mono (fun a' w' h => ih _ a' w' h (by omega)) (hstep listed a w i hI hi)
end Go.Proofs.YtffcnonhhfhlhaaDoor.Ord
namespace Go.Proofs.YtffcnonhhfhlhaaDoor.Rg
open Go.RowKit Go.Shelf Go.Sort
open Go.Proofs.YtffcnonhhfhlhaaDoor.It
set_option linter.unusedVariables false

theorem tk_append : ∀ {a : List Sg} (r : List Sg) {lo hi : Int}, (∀ s ∈ a, s.lo ≤ hi) → tk lo hi (a ++ r) = a.map (cutS lo hi) ++ tk lo hi r
  | [], r, lo, hi, h => rfl
  | s :: a, r, lo, hi, h => by
    simp only [List.cons_append, tk, List.map_cons]
    rw [if_neg (by have := h s (by simp); omega), tk_append r (fun t ht => h t (List.mem_cons_of_mem _ ht))]
theorem tk_map {a : List Sg} {lo hi : Int} (h : ∀ s ∈ a, s.lo ≤ hi) : tk lo hi a = a.map (cutS lo hi) := by
  have := tk_append (lo := lo) [] h
  simpa [tk] using this
theorem tk_halt {a : List Sg} {s : Sg} (r : List Sg) {lo hi : Int} (h : ∀ t ∈ a, t.lo ≤ hi) (hs : hi < s.lo) : tk lo hi (a ++ [s] ++ r) = a.map (cutS lo hi) := by
  rw [List.append_assoc, tk_append _ h]
  simp only [List.singleton_append, tk]
  rw [if_pos hs]; simp
theorem tk_pre {a M : List Sg} {lo hi : Int} (h : ∀ s ∈ a, s.lo ≤ hi) (hp : a <+: M) : a.map (cutS lo hi) <+: tk lo hi M := by
  obtain ⟨r, rfl⟩ := hp
  rw [tk_append r h]
  exact ⟨_, rfl⟩

/-- the blocks that a round over Within keeps -/
def KW (Bl Bh r : Nat) (k : Nat) (t : TypeId) : Prop := k = Bl ∨ k = Bh ∨ k = r ∨ t = 90
theorem kc_nu {K : Nat → TypeId → Prop} {w w' : World} (h : Kp Nu w w') : Kc K w w' := fun k c t m _ e => (h.block k (blk_lt e) (fun h => h)).trans e
theorem grown_nu {w w' : World} (h : Kp Nu w w') : w.grownBy w' none := ⟨h.os, h.tape, h.output, h.size, fun k hk _ => h.block k hk (fun h => h)⟩
theorem kf_nu {w w' : World} (B : Nat) (h : Kp Nu w w') : KeepsFrom B w w' := ⟨h.size, fun k o _ hk _ => (h.block k (blk_lt hk) (fun h => h)).trans hk⟩
theorem kf_mono {w w' : World} {B B' : Nat} (h : KeepsFrom B w w') (hB : B ≤ B') : KeepsFrom B' w w' := ⟨h.size, fun k o hk h1 h2 => h.same k o (by omega) h1 h2⟩
theorem own_cells {β : Type} (B k : Nat) (c : Array Value) (t : TypeId) (m : Nat × Nat) : OwnFrom B (fun (_ : β) W => W.heap[k]? = some (.cells c t m)) := fun _ A C row hs hg hr =>
  (hg.block k (blk_lt hs) (fun e => by obtain ⟨_, o, ho, hc⟩ := hr k e.symm; rw [hs] at ho; cases ho; cases hc)).trans hs
end Go.Proofs.YtffcnonhhfhlhaaDoor.Rg
