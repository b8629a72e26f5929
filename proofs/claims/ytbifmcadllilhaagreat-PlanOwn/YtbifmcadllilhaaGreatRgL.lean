import Derived.Test.YtbifmcadllilhaaGreatRgD
import Derived.Laws.EntriesVeiled
import Derived.OrdersIn
namespace Go.Proofs.YtbifmcadllilhaaGreat.Rg
open Go.RowKit Go.Shelf Go.Sort
open Go.Proofs.YtbifmcadllilhaaGreat.It
attribute [local go_sem] Oper.semAt_some
set_option linter.unusedVariables false

/-- a block's cells hold these segments from a place on -/
def Row (cur : Array Value) (off : Nat) (M : List Sg) : Prop := ∀ i s, M[i]? = some s → cur[off + i * 3]? = some (.int .u64 s.lo) ∧ cur[off + i * 3 + 1]? = some (.int .u64 s.hi) ∧ cur[off + i * 3 + 2]? = some (.int .u8 s.h)
theorem Row.drop {cur : Array Value} {off : Nat} {M : List Sg} (h : Row cur off M) (p : Nat) : Row cur (off + p * 3) (M.drop p) := fun i s hs => by
  have := h (p + i) s (by simpa using hs)
  have e : off + p * 3 + i * 3 = off + (p + i) * 3 := by omega
  rw [e]; exact this

theorem Tb.cur {B b : Nat} {w : World} {lim : Int} {v : Value} {L : List Sg} (h : Tb B w b lim v L) {r : Nat} (hr : v.ownBlock = some r) : ∃ cur, w.heap[r]? = some (.cells cur 38 (0, 0)) ∧ Row cur 0 L := by
  obtain ⟨r', cap, e, cur, hc⟩ := h.row
  subst e
  simp [Value.ownBlock] at hr
  subst hr
  refine ⟨cur, hc, fun i s hs => ?_⟩
  obtain ⟨r', cap', e', x0, x1, x2⟩ := row_at h.own hs
  cases e'
  simp only [World.cell?, hc] at x0 x1 x2
  simpa using And.intro x0 (And.intro x1 x2)

set_option maxRecDepth 100000 in
set_option maxHeartbeats 1000000 in
theorem from1_in (n : Nat) (l Bn r off cap : Nat) (M : List Sg) (cur : Array Value) (hM : M.length ≤ 8192) (hrow : Row cur off M) (J Jx : List Sg → World → Prop)
    (hY : ∀ pre x W, J pre W → pre.length < M.length → YieldAt Fence.wide (n - 1) Tryz.prog l #[enc x] W fun e W' =>
      (e = .returned (.bool true) ∧ J (pre ++ [x]) W' ∧ Kc (fun k _ => k = r) W W') ∨ (e = .returned (.bool false) ∧ Jx (pre ++ [x]) W'))
    (W : World) (hJ : AbidesFrom W.heap.size J) (hc : W.heap[Bn]? = some (.cells #[.slice (some ⟨r, off, none⟩) M.length cap] 22 (0, 0))) (hr : W.heap[r]? = some (.cells cur 38 (0, 0))) (h0 : J [] W) :
    CallsIn Fence.wide n Tryz.prog 82 #[.func (.yield l) #[] #[], .pointer (some ⟨Bn, 0, none⟩)] W fun e W' => (∃ v, e = .returned v) ∧
      ((∃ ys, ys = M ∧ J ys W') ∨ (∃ pre, pre <+: M ∧ Jx pre W')) := by
  refine callsIn_of_wp Tryz.func82 rfl trivial ?_ rfl
  simp only [Tryz.ntmps82, List.size_toArray, List.length_cons, List.length_nil, Nat.reduceAdd, Nat.reduceSub, Array.replicate_succ, Array.replicate_zero, List.push_toArray, List.append_toArray, List.nil_append, List.cons_append]
  have hcc := cell1 hc
  have HROW := hide hrow
  obtain ⟨N, hN⟩ : ∃ N, M.length = N := ⟨_, rfl⟩
  rw [hN] at hcc hY hM
  have HY := hide hY
  have HJ := hide hJ
  clear hrow hc hY hJ
  have HN := hide hN
  clear hN
  gi_wp2
  gi_loopw [7] (fun i wr => ∃ k : Nat, i = .int .i64 (k : Int) ∧ k ≤ N ∧ wr.heap[r]? = some (.cells cur 38 (0, 0)) ∧ Hid (J (M.take k) wr))
    (fun i _ => N - (intOf i).toNat)
  case atStart => exact ⟨0, rfl, Nat.zero_le _, hr, show J (M.take 0) W by simpa using h0⟩
  case round =>
    obtain ⟨k, rfl, hk, hrw, hJk⟩ := hrel
    by_cases hlt : k < N
    · have hkM : k < M.length := by rw [HN.out]; exact hlt
      obtain ⟨s, hs⟩ : ∃ s, M[k]? = some s := ⟨_, List.getElem?_eq_getElem hkM⟩
      obtain ⟨x0, x1, x2⟩ := HROW.out k s hs
      have y0 : wr.cell? ⟨r, off + k * 3, none⟩ = some (.int .u64 s.lo) := by simp [World.cell?, hrw, x0]
      have y1 : wr.cell? ⟨r, off + k * 3 + 1, none⟩ = some (.int .u64 s.hi) := by simp [World.cell?, hrw, x1]
      have y2 : wr.cell? ⟨r, off + k * 3 + 2, none⟩ = some (.int .u8 s.h) := by simp [World.cell?, hrw, x2]
      have hltI : (k : Int) < (N : Int) := by omega
      have hk0 : (0 : Int) ≤ (k : Int) := by omega
      have hkN : (k : Int) ≤ 8192 := by omega
      have hJ2 : J (M.take k) (wr.alloc (.cells #[.int .u64 s.lo, .int .u64 s.hi, .int .u8 s.h] 38)) := HJ.out _ _ _ none hJk.out (World.grownBy_alloc wr _ none) (fun r e => by cases e)
      obtain ⟨fn, tmps, assign, body, hy, hR⟩ := HY.out (M.take k) s _ hJ2 (by simp; omega)
      have HT : Hid (M.take k ++ [s] = M.take (k + 1)) := by
        show _ = _
        rw [List.take_add_one, hs]; rfl
      have HB : Hid ((wr.alloc (.cells #[.int .u64 s.lo, .int .u64 s.hi, .int .u8 s.h] 38)).heap[r]? = some (.cells cur 38 (0, 0))) := (Below.heap_alloc _ _ _ (blk_lt hrw)).trans hrw
      unfold enc at hy
      clear hJ2 hJk x0 x1 x2 hs hrw
      gi_wp2
      refine ⟨fun h => (by cases h), hR.mono ?_⟩
      rintro e W3 (⟨rfl, hJ4, hk3⟩ | ⟨rfl, hJx3⟩)
      · have hr3 := hk3 r _ _ _ rfl HB.out
        gi_wp2
        go_roundw
        case rel => exact ⟨k + 1, by go_num, by omega, hr3, by rw [← HT.out]; exact hJ4⟩
        case measure => simp [intOf]; omega
      · gi_wp2
        refine bodyPost_ret (results_none rfl _ _ _) rfl ?_
        exact ⟨⟨_, rfl⟩, .inr ⟨_, ⟨M.drop (k + 1), by rw [HT.out]; simp⟩, hJx3⟩⟩
    · have hge : ¬ (k : Int) < (N : Int) := by omega
      have HF : Hid (J M wr) := by
        have := hJk.out
        rwa [List.take_of_length_le (by rw [HN.out]; omega)] at this
      clear hJk
      gi_wp2
      go_end0
      first | exact ⟨⟨_, rfl⟩, .inl ⟨M, rfl, HF.out⟩⟩ | exact ⟨⟨_, rfl⟩, .inl HF.out⟩

theorem from_stops (n Bn r off cap : Nat) (M : List Sg) (cur : Array Value) (hM : M.length ≤ 8192) (hrow : Row cur off M) (w : World) (hc : w.heap[Bn]? = some (.cells #[.slice (some ⟨r, off, none⟩) M.length cap] 22 (0, 0))) (hr : w.heap[r]? = some (.cells cur 38 (0, 0))) :
    SeqStopsK Fence.wide n Tryz.prog 82 #[.pointer (some ⟨Bn, 0, none⟩)] (fun x : Sg => #[enc x]) (Kc (fun k _ => k = r)) (fun ys => ys = M) (fun pre => pre <+: M) M.length w := fun l J Jx W hW hJ _ hY h0 =>
  from1_in n l Bn r off cap M cur hM hrow J Jx hY W hJ ((hW.block Bn (blk_lt hc)).trans hc) ((hW.block r (blk_lt hr)).trans hr) h0
end Go.Proofs.YtbifmcadllilhaaGreat.Rg
namespace Go.Proofs.YtbifmcadllilhaaGreat.Rg
open Go.RowKit Go.Shelf Go.Sort
open Go.Proofs.YtbifmcadllilhaaGreat.It
attribute [local go_sem] Oper.semAt_some
set_option linter.unusedVariables false

theorem set_set3 {w : World} {b : Nat} {x y z x' y' : Value} {t : TypeId} (h : w.heap[b]? = some (.cells #[x, y, z] t (0, 0))) : ((w.setCell ⟨b, 0, none⟩ x').setCell ⟨b, 1, none⟩ y').heap[b]? = some (.cells #[x', y', z] t (0, 0)) := by
  rw [set3 (set3 h 0 x') 1 y']; rfl

end Go.Proofs.YtbifmcadllilhaaGreat.Rg
namespace Go.Proofs.YtbifmcadllilhaaGreat.Ord
open Go
set_option linter.unusedVariables false

theorem ready_spec {md : Region.Mode} {ops : Array Oper} {listed : Array Bool} {i : Nat} (h : i ∈ Region.ready md ops listed) : i < ops.size ∧ listed.getD i true = false := by
  unfold Region.ready at h
  rw [List.mem_filter] at h
  obtain ⟨h1, h2⟩ := h
  rw [Bool.and_eq_true, Bool.not_eq_true'] at h2
  exact ⟨List.mem_range.1 h1, h2.1⟩

theorem mem_ready {md : Region.Mode} {ops : Array Oper} {listed : Array Bool} {i : Nat} (h : i ∈ Region.ready md ops listed) : i < ops.size ∧ (!listed.getD i true && ((ops[i]?).map (·.after.all fun e => !Region.binds md e || listed.getD e.on false)).getD false) = true := by
  unfold Region.ready at h
  rw [List.mem_filter] at h
  exact ⟨List.mem_range.1 h.1, h.2⟩
theorem not_ready {md : Region.Mode} {ops : Array Oper} {listed : Array Bool} {i : Nat} (h : Region.ready md ops listed = []) (hi : i < ops.size) : (!listed.getD i true && ((ops[i]?).map (·.after.all fun e => !Region.binds md e || listed.getD e.on false)).getD false) = false := by
  rw [Bool.eq_false_iff]
  intro hb
  have : i ∈ Region.ready md ops listed := by
    unfold Region.ready
    rw [List.mem_filter]
    exact ⟨List.mem_range.2 hi, hb⟩
  rw [h] at this
  cases this
theorem lt_cases11 {i : Nat} (h : i < 11) : i = 0 ∨ i = 1 ∨ i = 2 ∨ i = 3 ∨ i = 4 ∨ i = 5 ∨ i = 6 ∨ i = 7 ∨ i = 8 ∨ i = 9 ∨ i = 10 := by omega

theorem lt_cases13 {i : Nat} (h : i < 13) : i = 0 ∨ i = 1 ∨ i = 2 ∨ i = 3 ∨ i = 4 ∨ i = 5 ∨ i = 6 ∨ i = 7 ∨ i = 8 ∨ i = 9 ∨ i = 10 ∨ i = 11 ∨ i = 12 := by omega
def sel (l : Bool) (v : Value) : Value := if l then v else undef
theorem sel_t (v : Value) : sel true v = v := rfl
theorem sel_f (v : Value) : sel false v = undef := rfl
theorem count_list : ∀ (l : List Bool) (i : Nat), l[i]? = some false → (l.set i true).count false + 1 = l.count false
  | [], i, h => by simp at h
  | x :: t, 0, h => by
    simp at h
    subst h
    simp
  | x :: t, i + 1, h => by
    have := count_list t i (by simpa using h)
    rw [List.set_cons_succ, List.count_cons, List.count_cons]
    omega
theorem count_set {listed : Array Bool} {i : Nat} (h : listed.getD i true = false) : (listed.setIfInBounds i true).toList.count false + 1 = listed.toList.count false := by
  rw [Array.toList_setIfInBounds]
  refine count_list _ _ ?_
  rw [Array.getD_eq_getD_getElem?] at h
  rw [Array.getElem?_toList]
  cases hx : listed[i]? with
  | none => rw [hx] at h; cases h
  | some b => rw [hx] at h; exact congrArg some h

/-- a region that draws, by what holds whatever has been listed: no order is gone through -/
theorem wpAnyIn_inv {F : Fence} {n : Nat} {P : Program} {ops : Array Oper} {Q : Exit → Act → World → Prop} {md : Region.Mode} (Inv : Array Bool → Act → World → Prop)
    (hstep : ∀ listed a w i, Inv listed a w → i ∈ Region.ready md ops listed → wpOpIn F n P ops Q i (fun a' w' => Inv (listed.setIfInBounds i true) a' w') a w)
    (hend : ∀ listed a w, Inv listed a w → Region.ready md ops listed = [] → Q .normal a w) :
    ∀ fuel listed a w, Inv listed a w → listed.toList.count false ≤ fuel → wpAnyIn F n P md ops Q fuel listed a w := by
  intro fuel
  induction fuel with
  | zero =>
    intro listed a w hI hc
    have hr : Region.ready md ops listed = [] := by
      rw [List.eq_nil_iff_forall_not_mem]
      intro i hi
      have := count_set (ready_spec hi).2
      omega
    exact ⟨hr, hend listed a w hI hr⟩
  | succ fuel ih =>
    intro listed a w hI hc
    refine ⟨fun hr => hend listed a w hI hr, fun i hi => ?_⟩
    have := count_set (ready_spec hi).2
    exact wpOpIn_mono (fun a' w' h => ih _ a' w' h (by omega)) (hstep listed a w i hI hi)
end Go.Proofs.YtbifmcadllilhaaGreat.Ord
namespace Go.Proofs.YtbifmcadllilhaaGreat.Rg
open Go.RowKit Go.Shelf Go.Sort
open Go.Proofs.YtbifmcadllilhaaGreat.It
set_option linter.unusedVariables false

theorem tk_append : ∀ {a : List Sg} (r : List Sg) {lo hi : Int}, (∀ s ∈ a, s.lo ≤ hi) → tk lo hi (a ++ r) = a.map (cutS lo hi) ++ tk lo hi r
  | [], r, lo, hi, h => rfl
  | s :: a, r, lo, hi, h => by
    simp only [List.cons_append, tk, List.map_cons]
    rw [if_neg (by have := h s (by simp); omega), tk_append r (fun t ht => h t (List.mem_cons_of_mem _ ht))]
theorem tk_map {a : List Sg} {lo hi : Int} (h : ∀ s ∈ a, s.lo ≤ hi) : tk lo hi a = a.map (cutS lo hi) := by
  have := tk_append (lo := lo) [] h
  simpa [tk] using this
theorem tk_halt {a : List Sg} {s : Sg} (r : List Sg) {lo hi : Int} (h : ∀ t ∈ a, t.lo ≤ hi) (hs : hi < s.lo) : tk lo hi (a ++ [s] ++ r) = a.map (cutS lo hi) := by
  rw [List.append_assoc, tk_append _ h]
  simp only [List.singleton_append, tk]
  rw [if_pos hs]; simp
theorem tk_pre {a M : List Sg} {lo hi : Int} (h : ∀ s ∈ a, s.lo ≤ hi) (hp : a <+: M) : a.map (cutS lo hi) <+: tk lo hi M := by
  obtain ⟨r, rfl⟩ := hp
  rw [tk_append r h]
  exact ⟨_, rfl⟩

/-- the blocks that a round over Within keeps -/
def KW (Bl Bh r : Nat) (k : Nat) (t : TypeId) : Prop := k = Bl ∨ k = Bh ∨ k = r ∨ t = 144
theorem kc_nu {K : Nat → TypeId → Prop} {w w' : World} (h : Kp Nu w w') : Kc K w w' := fun k c t m _ e => (h.block k (blk_lt e) (fun h => h)).trans e
theorem grown_nu {w w' : World} (h : Kp Nu w w') : w.grownBy w' none := ⟨h.os, h.tape, h.output, h.size, fun k hk _ => h.block k hk (fun h => h)⟩
theorem kf_nu {w w' : World} (B : Nat) (h : Kp Nu w w') : KeepsFrom B w w' := ⟨h.size, fun k o _ hk _ => (h.block k (blk_lt hk) (fun h => h)).trans hk⟩
theorem kf_mono {w w' : World} {B B' : Nat} (h : KeepsFrom B w w') (hB : B ≤ B') : KeepsFrom B' w w' := ⟨h.size, fun k o hk h1 h2 => h.same k o (by omega) h1 h2⟩
theorem own_cells {β : Type} (B k : Nat) (c : Array Value) (t : TypeId) (m : Nat × Nat) : OwnFrom B (fun (_ : β) W => W.heap[k]? = some (.cells c t m)) := fun _ A C row hs hg hr =>
  (hg.block k (blk_lt hs) (fun e => by obtain ⟨_, o, ho, hc⟩ := hr k e.symm; rw [hs] at ho; cases ho; cases hc)).trans hs
end Go.Proofs.YtbifmcadllilhaaGreat.Rg
namespace Go.Proofs.YtbifmcadllilhaaGreat.Rg
open Go.RowKit Go.Shelf Go.Sort
open Go.Proofs.YtbifmcadllilhaaGreat.It
attribute [local go_sem] Oper.semAt_some
set_option linter.unusedVariables false

theorem bel_nu {n : Nat} {a b c : World} (h : Below n a b) (k : Kp Nu b c) (hn : n ≤ b.heap.size) : Below n a c :=
  h.trans (k.toBelow.mono hn)

set_option maxRecDepth 100000 in
set_option maxHeartbeats 1000000 in
theorem segment_any {B b : Nat} {w : World} {lim : Int} {v : Value} {L : List Sg} (h : Tb B w b lim v L) (key : Int) (k0 : 0 ≤ key) (k1 : key < 18446744073709551616) :
    Calls Tryz.prog 73 #[.pointer (some ⟨b, 0, none⟩), .int .u64 key] w fun e w' => ∃ s, e = .returned (enc s) ∧ L[plc L key]? = some s ∧ Kp Nu w w' := by
  have KA := Kp.alloc w (.cells #[.int .u64 0, .int .u64 0, .int .u8 0] 38) Nu
  have FR := from_any (h.nu KA) key k0 k1
  obtain ⟨s, hs, _⟩ := plc_facts h.tab.cov k0 k1
  have hl : L.length ≤ 8192 := by have := h.len; have := h.lim1; omega
  refine (callsIn_wide (n := 4)).1 ?_
  refine callsIn_of_wp_marks Tryz.func73 rfl trivial ?_ rfl
  simp only [Tryz.ntmps73, List.size_toArray, List.length_cons, List.length_nil, Nat.reduceAdd, Nat.reduceSub, Array.replicate_succ, Array.replicate_zero, List.push_toArray, List.append_toArray, List.nil_append, List.cons_append]
  gi_wp2_with fail
  refine ⟨trivial, (callsIn_wide.2 FR).mono ?_⟩
  rintro e w2 ⟨Bn, r, cap, rfl, hBn, hbn, hr, hk2⟩
  have T2 := (h.nu KA).nu hk2
  obtain ⟨cur, hcur, hrow⟩ := T2.cur hr
  have hres : w2.heap[w.heap.size]? = some (.cells #[.int .u64 0, .int .u64 0, .int .u8 0] 38 (0, 0)) := new_at w _ hk2
  have hbel : Below w.heap.size w w2 := (KA.andNu hk2).toBelow
  have hrw : r ≠ w.heap.size := fun e => by
    have := own_lt h.own hr
    omega
  have hM : (L.drop (plc L key)).length ≤ 8192 := by simp; omega
  have hrow2 := hrow.drop (plc L key)
  rw [Nat.zero_add] at hrow2
  have hhead : (L.drop (plc L key)).head? = some s := by rw [List.head?_drop]; exact hs
  have hlt2 : w.heap.size < w2.heap.size := blk_lt hres
  have HE : Hid (L[plc L key]? = some s) := hs
  generalize hMM : L.drop (plc L key) = M at *
  clear FR T2 hrow h hs hMM KA hk2 hl
  gi_wp2_with fail
  refine wpIn_rangeFunc_ownH rfl (by omega) (gf := 82) (lb := #[.pointer (some ⟨Bn, 0, none⟩)]) rfl trivial (enters_of Tryz.func82 (by kernel_rfl) rfl)
    (from_stops _ Bn r _ cap M cur hM hrow2 w2 hbn hcur) (fun h k => h.trans k) (fun W l o o' _ h hc _ => Kc.put W l o o' h hc) (Below.refl _ _) (fun _ => rfl)
    (fun pre V => (pre = [] ∧ V.heap[w.heap.size]? = some (.cells #[.int .u64 0, .int .u64 0, .int .u8 0] 38 (0, 0))) ∧ Below w.heap.size w V)
    (fun c pre V => (c = .ret ∧ ∃ x, pre = [x] ∧ V.heap[w.heap.size]? = some (.cells #[.int .u64 x.lo, .int .u64 x.hi, .int .u8 x.h] 38 (0, 0))) ∧ Below w.heap.size w V)
    (OwnFrom.and (fun pre X Z row hs hg hr => ⟨hs.1, own_cells (β := Unit) w2.heap.size _ _ _ _ () X Z row hs.2 hg hr⟩) (ownFrom_below (Nat.le_refl _) (by omega)))
    (fun c => OwnFrom.and (fun pre X Z row hs hg hr => by
      obtain ⟨h1, x, h2, h3⟩ := hs
      exact ⟨h1, x, h2, own_cells (β := Unit) w2.heap.size _ _ _ _ () X Z row h3 hg hr⟩) (ownFrom_below (Nat.le_refl _) (by omega)))
    ⟨⟨rfl, hres⟩, hbel⟩
    (fun x a' V => ∃ Bx, w.heap.size < Bx ∧ V.heap[Bx]? = some (.cells #[.int .u64 x.lo, .int .u64 x.hi, .int .u8 x.h] 38 (0, 0)) ∧ a' = { tmps := #[.pointer (some ⟨b, 0, none⟩), .int .u64 key, undef, undef, .pointer (some ⟨w.heap.size, 0, none⟩), .pointer (some ⟨Bx, 0, none⟩), .pointer (some ⟨b, 0, none⟩), .int .u64 key, .func (.func 82) #[] #[.pointer (some ⟨Bn, 0, none⟩)], enc x, undef, undef], defers := [] })
    (fun x a' _ X Z row hs hg hr => by
      obtain ⟨Bx, h0, h1, h2⟩ := hs
      exact ⟨Bx, h0, own_cells (β := Unit) w2.heap.size Bx _ _ _ () X Z row h1 hg hr, h2⟩)
    ?assign ?body ?done ?stop
  case assign =>
    rintro l' pre x V K ⟨⟨hp, y1⟩, hB1⟩ hK
    simp only [enc]
    have kV := Kp.alloc V (.cells #[.int .u64 x.lo, .int .u64 x.hi, .int .u8 x.h] 38) Nu
    have f1 := (kV.block _ (blk_lt y1) (fun h => h)).trans y1
    have HF := hide (And.intro f1 (And.intro hp (And.intro kV (blk_lt y1))))
    clear f1 y1 hp kV
    gi_wp2
    obtain ⟨f1, hp, kV, hlt⟩ := HF.out
    exact hK _ _ (kf_nu _ kV) (kc_nu kV) ⟨⟨hp, f1⟩, hB1.alloc hB1.size _⟩ ⟨V.heap.size, hlt, heap_alloc_new V _, rfl⟩
  case body =>
    rintro l' pre x a' V hl hq ⟨⟨hp, y1⟩, hB1⟩ ⟨Bx, hx0, hX, rfl⟩ hlt
    obtain ⟨a0, a1, a2⟩ := cell3 hX
    have s0 := free3 y1 0
    have s1 := free3 y1 1
    have s2 := free3 y1 2
    obtain ⟨b0, b1, b2⟩ := cell3 y1
    gi_wp2
    refine ⟨(((KeepsOthers.setCell _ _ _).trans (KeepsOthers.setCell _ _ _)).trans (KeepsOthers.setCell _ _ _)).from _, ⟨rfl, x, by rw [hp]; rfl, ?_⟩, ?_⟩
    · rw [set3 (set3 (set3 y1 0 _) 1 _) 2 _]; rfl
    · exact ((hB1.setCell (p := ⟨w.heap.size, 0, none⟩) (Nat.le_refl _) _).setCell (p := ⟨w.heap.size, 1, none⟩) (Nat.le_refl _) _).setCell (p := ⟨w.heap.size, 2, none⟩) (Nat.le_refl _) _
  case done =>
    rintro D ys V hD rfl ⟨⟨hp, y1⟩, hB1⟩ hK
    subst hp
    simp at hhead
  case stop =>
    rintro D c pre V hD hpre ⟨⟨rfl, x, rfl, y1⟩, hB1⟩ hK
    have y2 : (V.putObj D (.deferred none)).heap[w.heap.size]? = some (.cells #[.int .u64 x.lo, .int .u64 x.hi, .int .u8 x.h] 38 (0, 0)) := (World.putObj_heap_other (by omega)).trans y1
    obtain ⟨a0, a1, a2⟩ := cell3 y2
    have hx : x = s := by
      obtain ⟨t, rfl⟩ := hpre
      simpa using hhead
    subst hx
    gi_wp2
    refine ⟨by simp, .inl ⟨_, _, rfl, run_takeDeferred hK, ?_⟩⟩
    refine ⟨enc x, ?_, x, rfl, HE.out, Kp.of_below (hB1.trans (belowK_b (w := w) (Nat.le_refl _) V D _ _ (by omega) hK rfl rfl))⟩
    simp [results, Tryz.results73, go_sem, a0, a1, a2, enc]
end Go.Proofs.YtbifmcadllilhaaGreat.Rg
namespace Go.Proofs.YtbifmcadllilhaaGreat.Rg
open Go.RowKit Go.Shelf Go.Sort
open Go.Proofs.YtbifmcadllilhaaGreat.It
attribute [local go_sem] Oper.semAt_some
set_option linter.unusedVariables false

theorem field40 (W : World) (a b c : Value) : (Instr.field 38 (.agg #[a, b, c]) 2).run Tryz.prog W = .ok c W := by kernel_rfl

set_option maxRecDepth 100000 in
set_option maxHeartbeats 1000000 in
theorem lookup_any {B b : Nat} {w : World} {lim : Int} {v : Value} {L : List Sg} (h : Tb B w b lim v L) (key : Int) (k0 : 0 ≤ key) (k1 : key < 18446744073709551616) :
    Calls Tryz.prog 56 #[.pointer (some ⟨b, 0, none⟩), .int .u64 key] w fun e w' => e = .returned (.int .u8 (ow L key)) ∧ Kp Nu w w' := by
  have SG := segment_any h key k0 k1
  obtain ⟨s, hs, _, _, he, _⟩ := plc_facts h.tab.cov k0 k1
  have SG2 : Calls Tryz.prog 73 #[.pointer (some ⟨b, 0, none⟩), .int .u64 key] w fun e w' => e = .returned (.agg #[.int .u64 s.lo, .int .u64 s.hi, .int .u8 s.h]) ∧ Kp Nu w w' := SG.mono (by
    rintro e w' ⟨t, rfl, ht, hk⟩
    rw [hs] at ht; cases ht
    exact ⟨rfl, hk⟩)
  rw [← he]
  have fd := field40
  clear SG h hs he
  go_enter Tryz.func56, Tryz.ntmps56
  go_wp2_with (go_at_call 73; refine SG2.mono ?_; rintro e w' ⟨rfl, hk⟩)
  go_ret
  exact ⟨rfl, hk⟩

/-- is all of a range a host's? -/
def ownsB (L : List Sg) (lo hi o : Int) : Bool := (tk lo hi (L.drop (plc L lo))).all (fun s => s.h == o)

end Go.Proofs.YtbifmcadllilhaaGreat.Rg
namespace Go.Proofs.YtbifmcadllilhaaGreat.Rg
open Go.RowKit Go.Shelf Go.Sort
open Go.Proofs.YtbifmcadllilhaaGreat.It
set_option linter.unusedVariables false

theorem wu_add {x : Int} (h0 : 0 ≤ x) (h : x < 18446744073709551615) : IntKind.u64.wrap (x + 1) = x + 1 := by rw [IntKind.wrap_u64]; omega
theorem wu_sub {x : Int} (h0 : 0 < x) (h : x < 18446744073709551616) : IntKind.u64.wrap (x - 1) = x - 1 := by rw [IntKind.wrap_u64]; omega

def aft1 (L : List Sg) (lo o : Int) : Bool := decide (0 < lo ∧ ow L (lo - 1) ≠ o)
def aft2 (L : List Sg) (hi o : Int) : Bool := decide (hi < 18446744073709551615 ∧ ow L (hi + 1) ≠ o)

end Go.Proofs.YtbifmcadllilhaaGreat.Rg
namespace Go.Proofs.YtbifmcadllilhaaGreat.Rg
open Go.RowKit Go.Shelf Go.Sort
open Go.Proofs.YtbifmcadllilhaaGreat.It
set_option linter.unusedVariables false

theorem lay_snoc : ∀ (A : List Sg) (t s : Sg), lay (A ++ [t]) s = if t.h = s.h then A ++ [⟨t.lo, s.hi, t.h⟩] else A ++ [t] ++ [s]
  | [], t, s => rfl
  | [u], t, s => by
    simp only [List.singleton_append, lay]
    split <;> rfl
  | u :: x :: A, t, s => by
    have := lay_snoc (x :: A) t s
    simp only [List.cons_append, lay] at this ⊢
    rw [this]
    split <;> rfl
theorem info40 : (Tryz.prog.info? 38).map (fun i => (i.zero, i.size, i.bytes)) = some (some (.agg #[.int .u64 0, .int .u64 0, .int .u8 0]), 3, 24) := by kernel_rfl
theorem cell_three_new (w : World) (x y z : Value) (t : TypeId) : ∀ j u, [x, y, z][j]? = some u → (w.alloc (.cells #[x, y, z] t)).cell? ((⟨w.heap.size, 0, none⟩ : Addr).add j) = some u := by
  intro j u hj
  have h := cell3 (heap_alloc_new w (.cells #[x, y, z] t))
  match j, hj with
  | 0, hj => simp at hj; subst hj; exact h.1
  | 1, hj => simp at hj; subst hj; exact h.2.1
  | 2, hj => simp at hj; subst hj; exact h.2.2

/-- the last segment's end is set -/
theorem own_end {w : World} {B : Nat} {v : Value} {A : List Sg} {t : Sg} (h : w.ownsRow B 38 3 v (A.length + 1) (cells (A ++ [t]))) (y : Int) :
    ∃ r cap, v = .slice (some ⟨r, 0, none⟩) (A.length + 1) cap ∧ (w.setCell ⟨r, A.length * 3 + 1, none⟩ (.int .u64 y)).ownsRow B 38 3 v (A.length + 1) (cells (A ++ [⟨t.lo, y, t.h⟩])) ∧ w.frozen? ⟨r, A.length * 3 + 1, none⟩ = false := by
  rcases h.2 with ⟨_, h0⟩ | ⟨r, cap, cur, e, hB, hg, h1, h2, h3, h4⟩
  · omega
  refine ⟨r, cap, e, ⟨by rw [cells_length]; simp, .inr ⟨r, cap, cur.setIfInBounds (A.length * 3 + 1) (.int .u64 y), e, hB, set3 hg _ _, h1, h2, by simpa using h3, ?_⟩⟩, free3 hg _⟩
  rw [Array.toList_setIfInBounds, List.take_set, h4, cells_append, cells_append]
  have e1 : (cells A).length = A.length * 3 := cells_length A
  rw [List.set_append_right _ _ (by omega), e1]
  congr 1
  simp [cells, cellsG]

set_option maxRecDepth 100000 in
set_option maxHeartbeats 1000000 in
theorem lay_nil (base : Nat) (w : World) (u : Value) (s : Sg) (hown : w.ownsRow base 38 3 u 0 []) (hb : base ≤ w.heap.size) :
    Calls Tryz.prog 70 #[u, enc s] w fun e w' => ∃ u', e = .returned u' ∧ w'.ownsRow base 38 3 u' 1 (cells [s]) ∧ Kp (fun k => some k = u.ownBlock) w w' := by
  have mixed : Tryz.prog.follows .mixedOrders = true := by kernel_rfl
  obtain ⟨i0, hi, hz0, hz1, hz2⟩ := info_parts info40
  obtain ⟨ad, cap, hu⟩ := own_slice hown
  obtain ⟨N, hN⟩ : ∃ N, 0 = N := ⟨_, rfl⟩
  have HR : Hid ((((w.alloc (.cells #[.int .u64 s.lo, .int .u64 s.hi, .int .u8 s.h] 38)).alloc (.cells #[.int .u64 s.lo, .int .u64 s.hi, .int .u8 s.h] 38)).drew).ownsRow base 38 3 u 0 []) := (hown.alloc _).alloc _
  have HU : Hid (∀ g, u.ownBlock = some g → g < w.heap.size) := fun g hg => own_lt hown hg
  clear hN
  have HT : Hid (∀ j z, [.int .u64 s.lo, .int .u64 s.hi, .int .u8 s.h][j]? = some z → ((w.alloc (.cells #[.int .u64 s.lo, .int .u64 s.hi, .int .u8 s.h] 38)).alloc (.cells #[.int .u64 s.lo, .int .u64 s.hi, .int .u8 s.h] 38)).drew.cell? ((⟨w.heap.size + 1, 0, none⟩ : Addr).add j) = some z) := by
    have := cell_three_new (w.alloc (.cells #[.int .u64 s.lo, .int .u64 s.hi, .int .u8 s.h] 38)) (.int .u64 s.lo) (.int .u64 s.hi) (.int .u8 s.h) 38
    rw [World.size_alloc] at this
    exact this
  have K2 : Kp (fun k => some k = u.ownBlock) w ((w.alloc (.cells #[.int .u64 s.lo, .int .u64 s.hi, .int .u8 s.h] 38)).alloc (.cells #[.int .u64 s.lo, .int .u64 s.hi, .int .u8 s.h] 38)).drew := ((Kp.alloc w _ _).andAlloc _).drew
  have HK := hide K2
  subst hu
  clear hown K2
  unfold enc
  go_enter Tryz.func70, Tryz.ntmps70
  go_wp2_with fail
  go_region
  go_wp2_with (first
    | (at_builtin; refine wpList_append_own _ rfl _ _ 22 rfl base 38 i0 (.agg #[.int .u64 0, .int .u64 0, .int .u8 0]) 3 24 Tryz.underlying22 hi hz0 hz1 hz2 rfl (by decide) _ _ _ rfl HR.out ⟨w.heap.size + 1, 0, none⟩ 1 1 [.int .u64 s.lo, .int .u64 s.hi, .int .u8 s.h] rfl rfl HT.out (by simp [Value.oneCell']) (by unfold maxLen; omega) (by omega) (by simp; omega) ?_; intro v' w3 hown' hg3 hnil3; obtain ⟨ad3, cp3, ev3⟩ := own_slice hown'; have HO := hide hown'; have HG3 := hide hg3; subst ev3; clear hown' hg3 hnil3)
    | go_in)
  go_ret
  refine ⟨_, rfl, ?_, HK.out.trans (Kp.of_grown HG3.out) (fun i hi e => e)⟩
  have h1 := HO.out
  simpa [cells, cellsG] using h1

set_option maxRecDepth 100000 in
set_option maxHeartbeats 1000000 in
theorem lay_new (base : Nat) (w : World) (u : Value) (s : Sg) (A : List Sg) (t : Sg) (hne : t.h ≠ s.h) (hA : A.length + 2 ≤ 20000) (hown : w.ownsRow base 38 3 u (A.length + 1) (cells (A ++ [t]))) (hb : base ≤ w.heap.size) :
    Calls Tryz.prog 70 #[u, enc s] w fun e w' => ∃ u', e = .returned u' ∧ w'.ownsRow base 38 3 u' (A.length + 2) (cells (A ++ [t] ++ [s])) ∧ Kp (fun k => some k = u.ownBlock) w w' := by
  have mixed : Tryz.prog.follows .mixedOrders = true := by kernel_rfl
  obtain ⟨i0, hi, hz0, hz1, hz2⟩ := info_parts info40
  have ht : (A ++ [t])[A.length]? = some t := by simp
  have hl : (A ++ [t]).length = A.length + 1 := by simp
  have hown2 : w.ownsRow base 38 3 u (A ++ [t]).length (cells (A ++ [t])) := by rw [hl]; exact hown
  obtain ⟨r, cap, hu, x0, x1, x2⟩ := row_at hown2 ht
  rw [hl] at hu
  have HR : Hid ((((w.alloc (.cells #[.int .u64 s.lo, .int .u64 s.hi, .int .u8 s.h] 38)).alloc (.cells #[.int .u64 s.lo, .int .u64 s.hi, .int .u8 s.h] 38)).drew).ownsRow base 38 3 u (A.length + 1) (cells (A ++ [t]))) := (hown.alloc _).alloc _
  have HU : Hid (∀ g, u.ownBlock = some g → g < w.heap.size) := fun g hg => own_lt hown hg
  have hrlt : r < w.heap.size := HU.out r (by rw [hu]; rfl)
  have y2 : (w.alloc (.cells #[.int .u64 s.lo, .int .u64 s.hi, .int .u8 s.h] 38)).drew.cell? ⟨r, A.length * 3 + 2, none⟩ = some (.int .u8 t.h) := (World.cell?_of_block (Below.heap_alloc w _ r hrlt)).trans x2
  have heq : (t.h == s.h) = false := by simpa using hne
  generalize A.length = N at *
  have HT : Hid (∀ j z, [.int .u64 s.lo, .int .u64 s.hi, .int .u8 s.h][j]? = some z → ((w.alloc (.cells #[.int .u64 s.lo, .int .u64 s.hi, .int .u8 s.h] 38)).alloc (.cells #[.int .u64 s.lo, .int .u64 s.hi, .int .u8 s.h] 38)).drew.cell? ((⟨w.heap.size + 1, 0, none⟩ : Addr).add j) = some z) := by
    have := cell_three_new (w.alloc (.cells #[.int .u64 s.lo, .int .u64 s.hi, .int .u8 s.h] 38)) (.int .u64 s.lo) (.int .u64 s.hi) (.int .u8 s.h) 38
    rw [World.size_alloc] at this
    exact this
  have K2 : Kp (fun k => some k = u.ownBlock) w ((w.alloc (.cells #[.int .u64 s.lo, .int .u64 s.hi, .int .u8 s.h] 38)).alloc (.cells #[.int .u64 s.lo, .int .u64 s.hi, .int .u8 s.h] 38)).drew := ((Kp.alloc w _ _).andAlloc _).drew
  have HK := hide K2
  subst hu
  clear hown K2
  clear hown2 x0 x1 x2 ht hl hne
  unfold enc
  go_enter Tryz.func70, Tryz.ntmps70
  go_wp2_with fail
  go_region
  go_wp2_with (first
    | (at_builtin; refine wpList_append_own _ rfl _ _ 22 rfl base 38 i0 (.agg #[.int .u64 0, .int .u64 0, .int .u8 0]) 3 24 Tryz.underlying22 hi hz0 hz1 hz2 rfl (by decide) _ _ _ rfl HR.out ⟨w.heap.size + 1, 0, none⟩ 1 1 [.int .u64 s.lo, .int .u64 s.hi, .int .u8 s.h] rfl rfl HT.out (by simp [Value.oneCell']) (by unfold maxLen; omega) (by omega) (by simp; omega) ?_; intro v' w3 hown' hg3 hnil3; obtain ⟨ad3, cp3, ev3⟩ := own_slice hown'; have HO := hide hown'; have HG3 := hide hg3; subst ev3; clear hown' hg3 hnil3)
    | go_in)
  go_ret
  refine ⟨_, rfl, ?_, HK.out.trans (Kp.of_grown HG3.out) (fun i hi e => e)⟩
  have h1 := HO.out
  rw [cells_append]
  exact h1

set_option maxRecDepth 100000 in
set_option maxHeartbeats 1000000 in
theorem lay_same (base : Nat) (w : World) (u : Value) (s : Sg) (A : List Sg) (t : Sg) (hne : t.h = s.h) (hA : A.length + 2 ≤ 20000) (hown : w.ownsRow base 38 3 u (A.length + 1) (cells (A ++ [t]))) (hb : base ≤ w.heap.size) :
    Calls Tryz.prog 70 #[u, enc s] w fun e w' => ∃ u', e = .returned u' ∧ w'.ownsRow base 38 3 u' (A.length + 1) (cells (A ++ [⟨t.lo, s.hi, t.h⟩])) ∧ Kp (fun k => some k = u.ownBlock) w w' := by
  have mixed : Tryz.prog.follows .mixedOrders = true := by kernel_rfl
  have ht : (A ++ [t])[A.length]? = some t := by simp
  have hl : (A ++ [t]).length = A.length + 1 := by simp
  have hown2 : w.ownsRow base 38 3 u (A ++ [t]).length (cells (A ++ [t])) := by rw [hl]; exact hown
  obtain ⟨r, cap, hu, x0, x1, x2⟩ := row_at hown2 ht
  rw [hl] at hu
  obtain ⟨r', cap', hu', o1, o2⟩ := own_end hown s.hi
  rw [hu] at hu'
  simp only [Value.slice.injEq, Option.some.injEq, Addr.mk.injEq] at hu'
  obtain ⟨⟨rfl, _⟩, _⟩ := hu'
  have hrlt : r < w.heap.size := own_lt hown (by rw [hu]; rfl)
  have y2 : (w.alloc (.cells #[.int .u64 s.lo, .int .u64 s.hi, .int .u8 s.h] 38)).drew.cell? ⟨r, A.length * 3 + 2, none⟩ = some (.int .u8 t.h) := (World.cell?_of_block (Below.heap_alloc w _ r hrlt)).trans x2
  have y1 : (w.alloc (.cells #[.int .u64 s.lo, .int .u64 s.hi, .int .u8 s.h] 38)).drew.cell? ⟨r, A.length * 3 + 1, none⟩ = some (.int .u64 t.hi) := (World.cell?_of_block (Below.heap_alloc w _ r hrlt)).trans x1
  have heq : (t.h == s.h) = true := by simpa using hne
  have o3 : (w.alloc (.cells #[.int .u64 s.lo, .int .u64 s.hi, .int .u8 s.h] 38)).drew.frozen? ⟨r, A.length * 3 + 1, none⟩ = false := (World.frozen?_of_block (Below.heap_alloc w _ r hrlt)).trans o2
  have HO : Hid ((((w.setCell ⟨r, A.length * 3 + 1, none⟩ (.int .u64 s.hi)).alloc (.cells #[.int .u64 s.lo, .int .u64 s.hi, .int .u8 s.h] 38)).drew).ownsRow base 38 3 u (A.length + 1) (cells (A ++ [⟨t.lo, s.hi, t.h⟩]))) := o1.alloc _
  have hwn : w.heap.size ≠ r := by omega
  have K2 : Kp (fun k => some k = u.ownBlock) w ((w.setCell ⟨r, A.length * 3 + 1, none⟩ (.int .u64 s.hi)).alloc (.cells #[.int .u64 s.lo, .int .u64 s.hi, .int .u8 s.h] 38)).drew := (((Kp.refl _ w).andSet _ _ (.inr (by rw [hu]; rfl))).andAlloc _).drew
  have HK := hide K2
  generalize A.length = N at *
  subst hu
  clear hown hown2 x0 x1 x2 ht hl hne o1 K2
  unfold enc
  go_enter Tryz.func70, Tryz.ntmps70
  go_wp2_with fail
  go_region
  go_wp2
  go_ret
  exact ⟨_, rfl, HO.out, HK.out⟩

/-- what lay answers -/
theorem lay_any (base : Nat) (w : World) (u : Value) (A : List Sg) (s : Sg) (hA : A.length + 1 ≤ 20000) (hown : w.ownsRow base 38 3 u A.length (cells A)) (hb : base ≤ w.heap.size) :
    Calls Tryz.prog 70 #[u, enc s] w fun e w' => ∃ u', e = .returned u' ∧ w'.ownsRow base 38 3 u' (lay A s).length (cells (lay A s)) ∧ Kp (fun k => some k = u.ownBlock) w w' := by
  rcases List.eq_nil_or_concat A with rfl | ⟨A', t, rfl⟩
  · exact lay_nil base w u s hown hb
  · rw [List.concat_eq_append] at hA hown ⊢
    rw [lay_snoc]
    have hl : (A' ++ [t]).length = A'.length + 1 := by simp
    rw [hl] at hown hA
    by_cases e : t.h = s.h
    · rw [if_pos e]
      have hl2 : (A' ++ [(⟨t.lo, s.hi, t.h⟩ : Sg)]).length = A'.length + 1 := by simp
      rw [hl2]
      exact lay_same base w u s A' t e (by omega) hown hb
    · rw [if_neg e]
      have hl2 : (A' ++ [t] ++ [s]).length = A'.length + 2 := by simp
      rw [hl2]
      exact lay_new base w u s A' t e (by omega) hown hb
end Go.Proofs.YtbifmcadllilhaaGreat.Rg
