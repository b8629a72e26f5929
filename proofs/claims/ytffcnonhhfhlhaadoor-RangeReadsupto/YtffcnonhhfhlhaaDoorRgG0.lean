import Derived.Test.YtffcnonhhfhlhaaDoorRgE
import Derived.Laws.EntriesVeiled
import Derived.OrdersIn
import Derived.Test.YtffcnonhhfhlhaaDoorWsA
import Derived.BigQuiet
namespace Go.Proofs.YtffcnonhhfhlhaaDoor.Rg
open Go.RowKit Go.Shelf Go.Sort
open Go.Proofs.YtffcnonhhfhlhaaDoor.It
attribute [local go_sem] Oper.semAt_some
set_option linter.unusedVariables false

theorem set_set3 {w : World} {b : Nat} {x y z x' y' : Value} {t : TypeId} (h : w.heap[b]? = some (.cells #[x, y, z] t (0, 0))) : ((w.setCell ⟨b, 0, none⟩ x').setCell ⟨b, 1, none⟩ y').heap[b]? = some (.cells #[x', y', z] t (0, 0)) := by
  rw [set3 (set3 h 0 x') 1 y']; rfl

set_option maxHeartbeats 1000000 in
theorem cut_any (s : Sg) (lo hi : Int) (w : World) :
    Calls Tryd.prog 46 #[enc s, .int .u64 lo, .int .u64 hi] w fun e w' => e = .returned (enc (cutS lo hi s)) ∧ Kp Nu w w' := by
  have mixed : Tryd.prog.follows .mixedOrders = true := by kernel_rfl
  unfold enc cutS
  go_enter Tryd.func46, Tryd.ntmps46
  go_wp2
  refine bodyPost_ret (v := .agg #[.int .u64 (max s.lo lo), .int .u64 (min s.hi hi), .int .u8 s.h]) (by simp [results, Tryd.results46, go_sem]) rfl ?_
  exact ⟨rfl, (Kp.alloc w _ Nu).andAlloc _⟩

set_option maxHeartbeats 1000000 in
theorem within_any {B b : Nat} {w : World} {lim : Int} {v : Value} {L : List Sg} (h : Tb B w b lim v L) (lo hi : Int) (k0 : 0 ≤ lo) (k1 : lo < 18446744073709551616) :
    Calls Tryd.prog 14 #[.pointer (some ⟨b, 0, none⟩), .int .u64 lo, .int .u64 hi] w fun e w' => ∃ Br Bn r cap, e = .returned (.func (.func 45) #[] #[.pointer (some ⟨w.heap.size, 0, none⟩), .pointer (some ⟨w.heap.size + 1, 0, none⟩), .pointer (some ⟨Br, 0, none⟩)]) ∧
      w'.heap[w.heap.size]? = some (.cells #[.int .u64 lo] 23 (0, 0)) ∧ w'.heap[w.heap.size + 1]? = some (.cells #[.int .u64 hi] 23 (0, 0)) ∧ w'.heap[Br]? = some (.cells #[.func (.func 73) #[] #[.pointer (some ⟨Bn, 0, none⟩)]] 39 (0, 0)) ∧
      w'.heap[Bn]? = some (.cells #[.slice (some ⟨r, plc L lo * 3, none⟩) (L.drop (plc L lo)).length cap] 22 (0, 0)) ∧ v.ownBlock = some r ∧ Kp Nu w w' := by
  have K2 : Kp Nu w ((w.alloc (.cells #[.int .u64 lo] 23)).alloc (.cells #[.int .u64 hi] 23)) := (Kp.alloc w _ Nu).andAlloc _
  have FR := from_any (h.nu K2) lo k0 k1
  have x0 : ((w.alloc (.cells #[.int .u64 lo] 23)).alloc (.cells #[.int .u64 hi] 23)).heap[w.heap.size]? = some (.cells #[.int .u64 lo] 23 (0, 0)) := (Below.heap_alloc _ _ _ (by simp)).trans (heap_alloc_new w _)
  have x1 : ((w.alloc (.cells #[.int .u64 lo] 23)).alloc (.cells #[.int .u64 hi] 23)).heap[w.heap.size + 1]? = some (.cells #[.int .u64 hi] 23 (0, 0)) := by
    have := heap_alloc_new (w.alloc (.cells #[.int .u64 lo] 23)) (.cells #[.int .u64 hi] 23)
    rwa [World.size_alloc] at this
  have HX := hide (And.intro x0 (And.intro x1 K2))
  clear x0 x1 K2 h
  go_enter Tryd.func14, Tryd.ntmps14
  go_wp2_with (go_at_call 44; refine FR.mono ?_; rintro e w3 ⟨Bn, r, cap, rfl, hBn, hb, hr, hk⟩)
  go_ret
  have kk := (Kp.alloc w3 (.cells #[.func (.func 73) #[] #[.pointer (some ⟨Bn, 0, none⟩)]] 39) Nu)
  refine ⟨w3.heap.size, Bn, r, cap, rfl, ?_, ?_, heap_alloc_new w3 _, ?_, hr, (HX.out.2.2.andNu hk).andNu kk⟩
  · exact ((hk.andNu kk).block _ (blk_lt HX.out.1) (fun h => h)).trans HX.out.1
  · exact ((hk.andNu kk).block _ (blk_lt HX.out.2.1) (fun h => h)).trans HX.out.2.1
  · exact (kk.block _ (blk_lt hb) (fun h => h)).trans hb
end Go.Proofs.YtffcnonhhfhlhaaDoor.Rg
namespace Go.Proofs.YtffcnonhhfhlhaaDoor.Ord
open Go
set_option linter.unusedVariables false

theorem ready_spec {md : Region.Mode} {ops : Array Oper} {listed : Array Bool} {i : Nat} (h : i ∈ Region.ready md ops listed) : i < ops.size ∧ listed.getD i true = false := by
  unfold Region.ready at h
  rw [List.mem_filter] at h
  obtain ⟨h1, h2⟩ := h
  rw [Bool.and_eq_true, Bool.not_eq_true'] at h2
  exact ⟨List.mem_range.1 h1, h2.1⟩

theorem mem_ready {md : Region.Mode} {ops : Array Oper} {listed : Array Bool} {i : Nat} (h : i ∈ Region.ready md ops listed) : i < ops.size ∧ (!listed.getD i true && ((ops[i]?).map (·.after.all fun e => !Region.binds md e || listed.getD e.on false)).getD false) = true := by
  unfold Region.ready at h
  rw [List.mem_filter] at h
  exact ⟨List.mem_range.1 h.1, h.2⟩
theorem not_ready {md : Region.Mode} {ops : Array Oper} {listed : Array Bool} {i : Nat} (h : Region.ready md ops listed = []) (hi : i < ops.size) : (!listed.getD i true && ((ops[i]?).map (·.after.all fun e => !Region.binds md e || listed.getD e.on false)).getD false) = false := by
  rw [Bool.eq_false_iff]
  intro hb
  have : i ∈ Region.ready md ops listed := by
    unfold Region.ready
    rw [List.mem_filter]
    exact ⟨List.mem_range.2 hi, hb⟩
  rw [h] at this
  cases this
theorem lt_cases11 {i : Nat} (h : i < 11) : i = 0 ∨ i = 1 ∨ i = 2 ∨ i = 3 ∨ i = 4 ∨ i = 5 ∨ i = 6 ∨ i = 7 ∨ i = 8 ∨ i = 9 ∨ i = 10 := by omega

theorem lt_cases13 {i : Nat} (h : i < 13) : i = 0 ∨ i = 1 ∨ i = 2 ∨ i = 3 ∨ i = 4 ∨ i = 5 ∨ i = 6 ∨ i = 7 ∨ i = 8 ∨ i = 9 ∨ i = 10 ∨ i = 11 ∨ i = 12 := by omega
def sel (l : Bool) (v : Value) : Value := if l then v else undef
theorem sel_t (v : Value) : sel true v = v := rfl
theorem sel_f (v : Value) : sel false v = undef := rfl
theorem count_list : ∀ (l : List Bool) (i : Nat), l[i]? = some false → (l.set i true).count false + 1 = l.count false
  | [], i, h => by simp at h
  | x :: t, 0, h => by
    simp at h
    subst h
    simp
  | x :: t, i + 1, h => by
    have := count_list t i (by simpa using h)
    rw [List.set_cons_succ, List.count_cons, List.count_cons]
    omega
theorem count_set {listed : Array Bool} {i : Nat} (h : listed.getD i true = false) : (listed.setIfInBounds i true).toList.count false + 1 = listed.toList.count false := by
  rw [Array.toList_setIfInBounds]
  refine count_list _ _ ?_
  rw [Array.getD_eq_getD_getElem?] at h
  rw [Array.getElem?_toList]
  cases hx : listed[i]? with
  | none => rw [hx] at h; cases h
  | some b => rw [hx] at h; exact congrArg some h

/-- a region that draws, by what holds whatever has been listed: no order is gone through -/
theorem wpAnyIn_inv {F : Fence} {n : Nat} {P : Program} {ops : Array Oper} {Q : Exit → Act → World → Prop} {md : Region.Mode} (Inv : Array Bool → Act → World → Prop)
    (hstep : ∀ listed a w i, Inv listed a w → i ∈ Region.ready md ops listed → wpOpIn F n P ops Q i (fun a' w' => Inv (listed.setIfInBounds i true) a' w') a w)
    (hend : ∀ listed a w, Inv listed a w → Region.ready md ops listed = [] → Q .normal a w) :
    ∀ fuel listed a w, Inv listed a w → listed.toList.count false ≤ fuel → wpAnyIn F n P md ops Q fuel listed a w := by
  intro fuel
  induction fuel with
  | zero =>
    intro listed a w hI hc
    have hr : Region.ready md ops listed = [] := by
      rw [List.eq_nil_iff_forall_not_mem]
      intro i hi
      have := count_set (ready_spec hi).2
      omega
    exact ⟨hr, hend listed a w hI hr⟩
  | succ fuel ih =>
    intro listed a w hI hc
    refine ⟨fun hr => hend listed a w hI hr, fun i hi => ?_⟩
    have := count_set (ready_spec hi).2
    exact wpOpIn_mono (fun a' w' h => ih _ a' w' h (by omega)) (hstep listed a w i hI hi)
end Go.Proofs.YtffcnonhhfhlhaaDoor.Ord
namespace Go.Proofs.YtffcnonhhfhlhaaDoor.Rg
open Go.RowKit Go.Shelf Go.Sort
open Go.Proofs.YtffcnonhhfhlhaaDoor.It
set_option linter.unusedVariables false

theorem tk_append : ∀ {a : List Sg} (r : List Sg) {lo hi : Int}, (∀ s ∈ a, s.lo ≤ hi) → tk lo hi (a ++ r) = a.map (cutS lo hi) ++ tk lo hi r
  | [], r, lo, hi, h => rfl
  | s :: a, r, lo, hi, h => by
    simp only [List.cons_append, tk, List.map_cons]
    rw [if_neg (by have := h s (by simp); omega), tk_append r (fun t ht => h t (List.mem_cons_of_mem _ ht))]
theorem tk_map {a : List Sg} {lo hi : Int} (h : ∀ s ∈ a, s.lo ≤ hi) : tk lo hi a = a.map (cutS lo hi) := by
  have := tk_append (lo := lo) [] h
  simpa [tk] using this
theorem tk_halt {a : List Sg} {s : Sg} (r : List Sg) {lo hi : Int} (h : ∀ t ∈ a, t.lo ≤ hi) (hs : hi < s.lo) : tk lo hi (a ++ [s] ++ r) = a.map (cutS lo hi) := by
  rw [List.append_assoc, tk_append _ h]
  simp only [List.singleton_append, tk]
  rw [if_pos hs]; simp
theorem tk_pre {a M : List Sg} {lo hi : Int} (h : ∀ s ∈ a, s.lo ≤ hi) (hp : a <+: M) : a.map (cutS lo hi) <+: tk lo hi M := by
  obtain ⟨r, rfl⟩ := hp
  rw [tk_append r h]
  exact ⟨_, rfl⟩

/-- the blocks that a round over Within keeps -/
def KW (Bl Bh r : Nat) (k : Nat) (t : TypeId) : Prop := k = Bl ∨ k = Bh ∨ k = r ∨ t = 90
theorem kc_nu {K : Nat → TypeId → Prop} {w w' : World} (h : Kp Nu w w') : Kc K w w' := fun k c t m _ e => (h.block k (blk_lt e) (fun h => h)).trans e
theorem grown_nu {w w' : World} (h : Kp Nu w w') : w.grownBy w' none := ⟨h.os, h.tape, h.output, h.size, fun k hk _ => h.block k hk (fun h => h)⟩
theorem kf_nu {w w' : World} (B : Nat) (h : Kp Nu w w') : KeepsFrom B w w' := ⟨h.size, fun k o _ hk _ => (h.block k (blk_lt hk) (fun h => h)).trans hk⟩
theorem kf_mono {w w' : World} {B B' : Nat} (h : KeepsFrom B w w') (hB : B ≤ B') : KeepsFrom B' w w' := ⟨h.size, fun k o hk h1 h2 => h.same k o (by omega) h1 h2⟩
theorem own_cells {β : Type} (B k : Nat) (c : Array Value) (t : TypeId) (m : Nat × Nat) : OwnFrom B (fun (_ : β) W => W.heap[k]? = some (.cells c t m)) := fun _ A C row hs hg hr =>
  (hg.block k (blk_lt hs) (fun e => by obtain ⟨_, o, ho, hc⟩ := hr k e.symm; rw [hs] at ho; cases ho; cases hc)).trans hs
end Go.Proofs.YtffcnonhhfhlhaaDoor.Rg
namespace Go.Proofs.YtffcnonhhfhlhaaDoor.Ws
open Go.RowKit Go.Shelf
set_option linter.unusedVariables false
theorem kw (x : Int) (h0 : 0 ≤ x) (h1 : x ≤ 140737488355330) : wrap64 x = x ∧ IntKind.i64.wrap x = x := ⟨by unfold wrap64; omega, by rw [IntKind.wrap_i64]; omega⟩
/-- what Cut answers -/
def CutR (s : ByteArray) (c : UInt8) (e : Ending) : Prop := ∃ a b f, e = .returned (.tuple #[.string a, .string b, .bool f]) ∧ a.data.toList = (cutL c s.data.toList).1 ∧ b.data.toList = (cutL c s.data.toList).2.getD [] ∧ a.size ≤ s.size ∧ b.size ≤ s.size
set_option maxHeartbeats 1000000 in
set_option maxRecDepth 100000 in
theorem cut104 (s : ByteArray) (c : UInt8) (w : World) (hs : s.size ≤ 140737488355328) :
    Calls Tryd.prog 104 #[.string s, .string ⟨#[c]⟩] w fun e w' => CutR s c e ∧ ∃ q, w' = w.drewN q := by
  have mixed : Tryd.prog.follows .mixedOrders = true := by kernel_rfl
  have IX := index_one s c w
  have hsz : (⟨#[c]⟩ : ByteArray).size = 1 := rfl
  have hlen : s.data.toList.length = s.size := by simp
  rcases cut_idx c s.data.toList with ⟨h1, h2⟩ | ⟨k, h1, h2, h3⟩
  · rw [h1] at IX
    have HF : Hid (CutR s c (.returned (.tuple #[.string s, .string ⟨#[]⟩, .bool false]))) := hide ⟨s, ⟨#[]⟩, false, rfl, by rw [h2], by rw [h2]; rfl, Nat.le_refl _, Nat.zero_le _⟩
    clear h1 h2 hs hlen
    go_enter Tryd.func104, Tryd.ntmps104
    go_wp2_with fail
    refine IX.mono ?_; rintro e w' ⟨rfl, hw'⟩; obtain rfl := hw'.symm
    go_wp2
    go_ret3
    exact ⟨HF.out, 0, rfl⟩
  · rw [h2] at IX
    rw [hlen] at h1
    have HF : Hid (CutR s c (.returned (.tuple #[.string (s.extract 0 k), .string (s.extract (k + 1) s.size), .bool true]))) := hide ⟨_, _, true, rfl, by rw [h3, ext_list]; simp, by rw [h3, ext_list, ← hlen, List.take_of_length_le (Nat.le_refl _)]; rfl, by rw [ByteArray.size_extract]; omega, by rw [ByteArray.size_extract]; omega⟩
    have k0 : (0 : Int) ≤ (k : Int) := by omega
    have k1 : (k : Int) ≤ (s.size : Int) := by omega
    have k2 : (k : Int) + 1 ≤ (s.size : Int) := by omega
    have k3 : ((k : Int) + 1).toNat = k + 1 := by omega
    have k4 : (k : Int).toNat = k := by omega
    have k6 : (0 : Int) ≤ (k : Int) + 1 := by omega
    have k7 : ¬ (k : Int) < 0 := by omega
    obtain ⟨e1, e2⟩ := kw ((k : Int) + 1) (by omega) (by omega)
    clear h1 h2 h3 hs hlen
    go_enter Tryd.func104, Tryd.ntmps104
    go_wp2_with fail
    refine IX.mono ?_; rintro e w' ⟨rfl, hw'⟩; obtain rfl := hw'.symm
    go_wp2_with fail
    go_quiet (fail)
    go_wp2
    go_ret3
    exact ⟨HF.out, nq, rfl⟩
set_option maxHeartbeats 1000000 in
set_option maxRecDepth 100000 in
theorem cut81 (s : ByteArray) (c : UInt8) (w : World) (hs : s.size ≤ 140737488355328) :
    Calls Tryd.prog 81 #[.string s, .string ⟨#[c]⟩] w fun e w' => CutR s c e ∧ ∃ q, w' = w.drewN q := by
  have CT := cut104 s c w hs
  go_enter Tryd.func81, Tryd.ntmps81
  go_wp2_with fail
  refine CT.mono ?_; rintro e w' ⟨⟨a, b, f, rfl, h1, h2, h3, h4⟩, hw⟩
  have HF := hide (And.intro h1 (And.intro h2 (And.intro h3 (And.intro h4 hw))))
  clear h1 h2 h3 h4 hw CT
  go_wp2
  go_ret3
  obtain ⟨h1, h2, h3, h4, hw⟩ := HF.out
  exact ⟨⟨a, b, f, rfl, h1, h2, h3, h4⟩, hw⟩
/-- a number of decimal digits, and whether it is one -/
def dN (l : List UInt8) : Nat := (Num.numF l).1
def dB (l : List UInt8) : Bool := decide ((Num.numF l).2.2 = 0) && !Num.pre l
theorem decF_le : ∀ (l : List UInt8) (n k : Nat), n ≤ Num.top → (Num.decF n k l).1 ≤ Num.top
  | [], n, k, h => h
  | c :: r, n, k, h => by
    unfold Num.decF
    split
    · exact Nat.zero_le _
    · split
      · exact Nat.zero_le _
      · exact decF_le r _ _ (by omega)
theorem dN_le {l : List UInt8} (h : dB l = true) : dN l ≤ Num.top := by
  unfold dB at h
  simp only [Bool.and_eq_true, decide_eq_true_eq, Bool.not_eq_true'] at h
  unfold dN Num.numF
  have hp : ¬ l.take 2 = [48, 120] := fun e => by
    have := h.2
    unfold Num.pre at this
    rw [e] at this
    cases this
  split
  · exact Nat.zero_le _
  · split
    · exact Nat.zero_le _
    · exact decF_le l 0 0 (Nat.zero_le _)
set_option maxHeartbeats 1000000 in
set_option maxRecDepth 100000 in
theorem decimal82 (s : ByteArray) (w : World) (hs : s.size ≤ 140737488355328) :
    Calls Tryd.prog 82 #[.string s] w fun e w' => e = .returned (.tuple #[.int .u64 (dN s.data.toList : Int), .bool (dB s.data.toList)]) ∧ w' = w := by
  have NU := Num.number_any s w hs
  have HP := Num.hasPrefix_any s w hs
  unfold dN dB
  unfold Num.three at NU
  generalize Num.numF s.data.toList = r at NU ⊢
  obtain ⟨n, p, q⟩ := r
  simp only at NU ⊢
  generalize Num.pre s.data.toList = f at HP ⊢
  by_cases hq : q = 0
  · subst hq
    have hq1 : (((0 : Nat) : Int) == 0) = true := rfl
    clear hs
    go_enter Tryd.func82, Tryd.ntmps82
    go_wp2_with fail
    refine NU.mono ?_; rintro e w' ⟨rfl, hw'⟩; obtain rfl := hw'.symm
    go_wp2_with fail
    refine HP.mono ?_; rintro e w' ⟨rfl, hw'⟩; obtain rfl := hw'.symm
    cases f
    · go_wp2
      go_ret2
      exact ⟨rfl, rfl⟩
    · go_wp2
      go_ret2
      exact ⟨rfl, rfl⟩
  · have hq1 : ((q : Int) == 0) = false := by simp; omega
    have hd : decide (q = 0) = false := by simpa using hq
    rw [hd]
    clear hs hq hd
    go_enter Tryd.func82, Tryd.ntmps82
    go_wp2_with fail
    refine NU.mono ?_; rintro e w' ⟨rfl, hw'⟩; obtain rfl := hw'.symm
    go_wp2
    go_ret2
    exact ⟨rfl, rfl⟩
end Go.Proofs.YtffcnonhhfhlhaaDoor.Ws
