import Derived.Test.YtbifmcadllilhaaPtU
namespace Go.Proofs.Ytbifmcadllilhaa.Pn
open Go.RowKit
set_option linter.unusedVariables false
/-- how many owners are this host -/
def cnt (os : List Int) (h : Nat) : Int := ((os.filter (fun x => x == (h : Int))).length : Int)
theorem cnt_snoc (os : List Int) (x : Int) (h : Nat) : cnt (os ++ [x]) h = cnt os h + (if x = (h : Int) then 1 else 0) := by
  unfold cnt
  rw [List.filter_append, List.length_append]
  by_cases e : x = (h : Int)
  · simp [e]
  · have : (x == (h : Int)) = false := by simpa using e
    simp [e, this]
theorem cnt_le (os : List Int) (h : Nat) : 0 ≤ cnt os h ∧ cnt os h ≤ (os.length : Int) := by
  unfold cnt
  have := List.length_filter_le (fun x => x == (h : Int)) os
  omega
/-- the loads of the hosts -/
def lds (n : Nat) (os : List Int) : List Int := (List.range n).map (cnt os)
theorem lds_len (n : Nat) (os : List Int) : (lds n os).length = n := by simp [lds]
theorem hq_zero {w1 : World} {base g N : Nat} (h : w1.ownsRow base 3 1 (.slice (some ⟨g, 0, none⟩) N N) N (madeCells (Value.int .i64 0).cells (N * 1)).toList) : Hq w1 g N (fun q => q < N) (fun _ => 0) := by
  rcases h.2 with ⟨e, _⟩ | ⟨g', cap, cur, e, hb', hg, h1, h2, h3, h4⟩
  · cases e
  · cases e
    refine ⟨cur, hg, by omega, fun q hq => ?_⟩
    have hj : (madeCells (Value.int .i64 0).cells (N * 1)).toList[q]? = some (.int .i64 0) := by simp [madeCells, Value.cells, hq, Nat.mod_one]
    rw [← h4, List.getElem?_take_of_lt (by omega)] at hj
    simpa using hj
theorem Hq.ext {w : World} {g N : Nat} {D : Nat → Prop} {f f' : Nat → Int} (h : Hq w g N D f) (e : ∀ q, D q → f q = f' q) : Hq w g N D f' := by
  obtain ⟨cur, p1, p2, p3⟩ := h.mem
  exact ⟨cur, p1, p2, fun q hq => by rw [p3 q hq, e q hq]⟩
set_option maxRecDepth 100000 in
set_option maxHeartbeats 2000000 in
theorem counted46 (w : World) (n : Nat) (u : Value) (os : List Int) (hu : Ns w u os) (h1 : n ≤ 16) (h0 : ∀ x ∈ os, 0 ≤ x) (hl : os.length ≤ 140737488351232) :
    Calls Try.prog 46 #[.int .i64 (n : Int), u] w fun e w' => ∃ g, e = .returned (.slice (some ⟨g, 0, none⟩) n n) ∧ w'.ownsRow w.heap.size 3 1 (.slice (some ⟨g, 0, none⟩) n n) n (ics (lds n os)) ∧ Kp Nu w w' := by
  have mixed : Try.prog.follows .mixedOrders = true := by kernel_rfl
  obtain ⟨a1, c1, rfl, _, _⟩ := id hu
  obtain ⟨N, eN⟩ : ∃ N, os.length = N := ⟨_, rfl⟩
  have HU := hide (And.intro hu (And.intro eN h0))
  rw [eN] at hl ⊢
  have hNI : (N : Int) ≤ 140737488351232 := by omega
  have hnI : (n : Int) ≤ 16 := by omega
  clear hu eN hl h0
  obtain ⟨z0, hzi, hz0, hz1, hz2⟩ := info_parts info3z
  go_enter Try.func46, Try.ntmps46
  go_wp2_with (at_make; refine wpList_make_full _ rfl _ _ 22 rfl w.heap.size 3 z0 _ 1 Try.underlying22 hzi hz0 hz1 _ _ _ _ n rfl rfl rfl rfl (by rw [hz2]; omega) (by unfold maxLen; omega) (Nat.le_refl _) ?_; intro w4 hrow4 hgr4)
  have H4 := hide (And.intro (hq_zero hrow4) ((Kp.of_grown hgr4).mono (T := Nu) (fun _ _ e => by cases e)))
  clear hrow4 hgr4
  go_wp2
  go_loopw [6] (fun iv wr => ∃ i : Nat, iv = .int .i64 (i : Int) ∧ i ≤ N ∧ Hid (Hq wr w.heap.size n (fun q => q < n) (cnt (os.take i)) ∧ Kp Nu w wr)) (fun iv _ => N - (intOf iv).toNat)
  case atStart => exact ⟨0, rfl, Nat.zero_le _, hide ⟨H4.out.1.ext (fun q _ => by simp [cnt]), H4.out.2⟩⟩
  case round =>
    obtain ⟨i, rfl, hi, hI⟩ := hrel
    have hi0 : (0 : Int) ≤ (i : Int) := by omega
    by_cases hlt : i < N
    · have hltI : (i : Int) < (N : Int) := by omega
      obtain ⟨x, hx⟩ : ∃ x, os[i]? = some x := ⟨_, List.getElem?_eq_getElem (by rw [HU.out.2.1]; exact hlt)⟩
      obtain ⟨b1, rfl, k1⟩ := (HU.out.1.nu hI.out.2).at_ hx
      have eti : (i : Int).toNat = i := by omega
      have hx0 : 0 ≤ x := HU.out.2.2 x (List.mem_of_getElem? hx)
      have htk : os.take (i + 1) = os.take i ++ [x] := by rw [List.take_add_one, hx]; rfl
      have HX := hide (And.intro hx htk)
      clear hx htk
      by_cases hxn : x < (n : Int)
      · obtain ⟨q, rfl⟩ : ∃ q : Nat, x = (q : Int) := ⟨x.toNat, by omega⟩
        have hqn : q < n := by omega
        have etq : (q : Int).toNat = q := by omega
        obtain ⟨c, hc⟩ : ∃ c, cnt (os.take i) q = c := ⟨_, rfl⟩
        have y1 := hI.out.1.at_ hqn
        rw [hc] at y1
        have hb := cnt_le (os.take i) q
        rw [hc] at hb
        have hb2 : (os.take i).length ≤ i := by rw [List.length_take]; omega
        have hb3 : c ≤ 140737488351232 := by omega
        have hb4 : 0 ≤ c := hb.1
        have ew : IntKind.i64.wrap (c + 1) = c + 1 := by rw [IntKind.wrap_i64]; omega
        have hf := hI.out.1.free q
        have HC := hide hc
        clear hc hb hb2
        go_wp2
        refine ⟨⟨i + 1, by go_num, by omega, hide ⟨?_, hI.out.2.andSet _ _ (.inl (Nat.le_refl _))⟩⟩, by simp [intOf]; omega⟩
        have e1 : c + 1 = cnt (os.take (i + 1)) q := by rw [HX.out.2, cnt_snoc, HC.out]; simp
        rw [e1]
        refine hI.out.1.set (f' := cnt (os.take (i + 1))) hqn (fun p hp => .inr hp) (fun p hp _ => ?_)
        rw [HX.out.2, cnt_snoc, if_neg (by omega), Int.add_zero]
      · go_wp2
        refine ⟨⟨i + 1, by go_num, by omega, hide ⟨hI.out.1.ext (fun p hp => ?_), hI.out.2⟩⟩, by simp [intOf]; omega⟩
        rw [HX.out.2, cnt_snoc, if_neg (by omega), Int.add_zero]
    · have hge : ¬ (i : Int) < (N : Int) := by omega
      obtain rfl : N = i := by omega
      go_wp2
      go_ret
      refine ⟨_, rfl, hI.out.1.own (fun q hq => hq) (Nat.le_refl _) h1 _ ?_, hI.out.2⟩
      rw [← HU.out.2.1, List.take_length]
      simp [ics, lds, Function.comp_def]
end Go.Proofs.Ytbifmcadllilhaa.Pn
