import Derived.Test.YtbifmcadllilhaaGreatQsM
import Derived.Lib.SliceRun
namespace Go.Proofs.YtbifmcadllilhaaGreat.Rg
open Go.RowKit Go.Shelf Go.Sort
set_option linter.unusedVariables false
theorem len99 (n : Nat) (hn : n ≤ 1000000) : ∃ k : Nat, k ≤ 62 ∧ ∀ w, Calls Tryz.prog 91 #[.int .u64 (n : Int)] w fun e w' => e = .returned (.int .i64 (k : Int)) ∧ w' = w := by
  refine ⟨bitsLen n, (bitsLen_le_iff n 62).2 (by omega), fun w => ?_⟩
  have h := Any.bits_Len (SlLaysF0.n15.bits (P := Tryz.prog) (ρ := Tryz.sortI_ren) { Tryz.sortI with }) (n : Int) w (by omega) (by omega)
  rw [Int.toNat_natCast, bitLen_eq _ (by omega)] at h
  exact h
/-- the list, in order -/
def Sorted (l : List Int) : Prop := ∀ i j, i ≤ j → j < l.length → gt l i ≤ gt l j
set_option maxRecDepth 100000 in
set_option maxHeartbeats 2000000 in
theorem sort85 (w : World) (B g n c : Nat) (l : List Int) (hD : Dr w B g n c l) (hn : n ≤ 1000000) :
    Calls Tryz.prog 71 #[.slice (some ⟨g, 0, none⟩) n c] w fun e w' => e = .returned (.tuple #[]) ∧ ∃ l', Dr w' B g n c l' ∧ l'.Perm l ∧ Sorted l' ∧ Kp (fun k => k = g) w w' := by
  have mixed : Tryz.prog.follows .mixedOrders = true := by kernel_rfl
  obtain ⟨k, hk, LN⟩ := len99 n hn
  have C := pdq103 B g n c hn n w l 0 n k hD (by omega) (Nat.le_refl _) (by omega) (fun h => by omega) (by omega)
  have un : IntKind.u64.wrap (n : Int) = (n : Int) := by rw [IntKind.wrap_u64]; omega
  have n0 : (0 : Int) ≤ (n : Int) := by omega
  have n1 : (n : Int) ≤ 1000000 := by omega
  clear hD
  go_enter Tryz.func71, Tryz.ntmps71
  go_wp2_with (first | (go_at_call 91; refine (LN _).mono ?_; rintro e w' ⟨rfl, rfl⟩))
  refine C.mono ?_; rintro e w2 ⟨rfl, l2, q1, q2, q3, q4⟩
  go_wp2
  go_end0
  exact ⟨rfl, l2, q1, q2.perm, fun i j h1 h2 => q3 i j (by omega) h1 (by rw [← q1.len]; exact h2), q4⟩
end Go.Proofs.YtbifmcadllilhaaGreat.Rg
namespace Go.Proofs.YtbifmcadllilhaaGreat.Rg
open Go.RowKit Go.Shelf Go.Sort
set_option linter.unusedVariables false
/-- how far Compact has come: r places are read, k are kept -/
structure Cp (l l' : List Int) (k r : Nat) : Prop where
  len : l'.length = l.length
  k0 : 0 < k
  kr : k ≤ r
  rl : r ≤ l.length
  out : ∀ i, k ≤ i → gt l' i = gt l i
  inc : ∀ i j, i < j → j < k → gt l' i < gt l' j
  last : gt l' (k - 1) = gt l (r - 1)
  mem : ∀ x, (∃ i, i < k ∧ gt l' i = x) ↔ ∃ i, i < r ∧ gt l i = x
theorem Cp.start {l : List Int} (h : 0 < l.length) : Cp l l 1 1 := ⟨rfl, by omega, by omega, by omega, fun _ _ => rfl, fun i j i1 i2 => by omega, rfl, fun x => Iff.rfl⟩
theorem Cp.same {l l' : List Int} {k r : Nat} (h : Cp l l' k r) (hr : r < l.length) (he : gt l r = gt l (r - 1)) : Cp l l' k (r + 1) := by
  have k0 := h.k0
  have kr := h.kr
  refine ⟨h.len, k0, by omega, by omega, h.out, h.inc, by rw [h.last]; exact he.symm, fun x => ?_⟩
  rw [h.mem x]
  constructor
  · rintro ⟨i, i1, i2⟩; exact ⟨i, by omega, i2⟩
  · rintro ⟨i, i1, i2⟩
    by_cases e : i = r
    · exact ⟨r - 1, by omega, by rw [← he, ← e]; exact i2⟩
    · exact ⟨i, by omega, i2⟩
theorem Cp.next {l l' : List Int} {k r : Nat} (h : Cp l l' k r) (hr : r < l.length) (hlt : gt l (r - 1) < gt l r) : Cp l (l'.set k (gt l r)) (k + 1) (r + 1) := by
  have k0 := h.k0
  have kr := h.kr
  have hl := h.len
  have g : ∀ i, gt (l'.set k (gt l r)) i = if i = k then gt l r else gt l' i := fun i => gt_set l' _ (by omega)
  refine ⟨by rw [List.length_set]; exact hl, by omega, by omega, by omega, fun i i1 => ?_, fun i j i1 i2 => ?_, ?_, fun x => ?_⟩
  · rw [g, if_neg (by omega)]; exact h.out i (by omega)
  · rw [g, g, if_neg (by omega : ¬ i = k)]
    by_cases e : j = k
    · rw [if_pos e]
      have h1 := h.last
      by_cases e2 : i = k - 1
      · rw [e2, h1]; exact hlt
      · have := h.inc i (k - 1) (by omega) (by omega)
        omega
    · rw [if_neg e]; exact h.inc i j i1 (by omega)
  · rw [g, if_pos (by omega), show r + 1 - 1 = r by omega]
  · constructor
    · rintro ⟨i, i1, i2⟩
      rw [g] at i2
      by_cases e : i = k
      · rw [if_pos e] at i2; exact ⟨r, by omega, i2⟩
      · rw [if_neg e] at i2
        obtain ⟨j, j1, j2⟩ := (h.mem x).1 ⟨i, by omega, i2⟩
        exact ⟨j, by omega, j2⟩
    · rintro ⟨i, i1, i2⟩
      by_cases e : i = r
      · exact ⟨k, by omega, by rw [g, if_pos rfl, ← e]; exact i2⟩
      · obtain ⟨j, j1, j2⟩ := (h.mem x).2 ⟨i, by omega, i2⟩
        exact ⟨j, by omega, by rw [g, if_neg (by omega)]; exact j2⟩
/-- ahead of the first pair of equals nothing is written -/
theorem Cp.go {l : List Int} {k : Nat} (h : Cp l l k k) (hk : k < l.length) (hlt : gt l (k - 1) < gt l k) : Cp l l (k + 1) (k + 1) := by
  have q := h.next hk hlt
  have e : l.set k (gt l k) = l := ext_gt (by simp) (fun i hi => by
    rw [gt_set l _ hk]
    by_cases e : i = k
    · rw [if_pos e, e]
    · rw [if_neg e])
  rw [e] at q
  exact q
theorem Sorted.lt {l : List Int} (h : Sorted l) {k : Nat} (k0 : 0 < k) (hk : k < l.length) (ne : ¬ gt l k = gt l (k - 1)) : gt l (k - 1) < gt l k := by
  have := h (k - 1) k (by omega) hk
  omega
end Go.Proofs.YtbifmcadllilhaaGreat.Rg
namespace Go.Proofs.YtbifmcadllilhaaGreat.Rg
open Go.RowKit Go.Shelf Go.Sort
set_option linter.unusedVariables false
theorem Dr.take {w : World} {B g n c : Nat} {l : List Int} (h : Dr w B g n c l) {k : Nat} (hk : k ≤ n) : Dr w B g k c (l.take k) := by
  have hl := h.len
  refine ⟨?_, by rw [List.length_take]; omega⟩
  rcases h.own.2 with ⟨e0, _⟩ | ⟨g', cap', cur, e0, hb, hg, h1, h2, h3, h4⟩
  · cases e0
  · cases e0
    refine ⟨by rw [ucs_len, List.length_take]; omega, .inr ⟨g, c, cur, rfl, hb, hg, by omega, h2, h3, ?_⟩⟩
    have e : ucs (l.take k) = (ucs l).take (k * 1) := by unfold ucs; rw [List.map_take, Nat.mul_one]
    rw [e, ← h4, List.take_take, Nat.min_eq_left (by omega)]
theorem Dr.zero {B g n c : Nat} : ∀ (m : Nat) {w : World} {l : List Int} {k : Nat}, Dr w B g n c l → k + m ≤ n → ∃ l2, Dr (w.setCells g k (List.replicate m (.int .u64 0))) B g n c l2 ∧ (∀ i, i < k → gt l2 i = gt l i) ∧ Kp (fun k => k = g) w (w.setCells g k (List.replicate m (.int .u64 0)))
  | 0, w, l, k, h, hk => ⟨l, h, fun _ _ => rfl, Kp.refl _ _⟩
  | m + 1, w, l, k, h, hk => by
    have hl := h.len
    obtain ⟨l2, q1, q2, q3⟩ := Dr.zero m (k := k + 1) (h.set (k := k) (by omega) 0) (by omega)
    refine ⟨l2, q1, fun i hi => ?_, ((Kp.refl (fun k => k = g) w).andSet ⟨g, k, none⟩ (.int .u64 0) (.inr rfl)).trans q3 (fun _ _ e => e)⟩
    rw [q2 i (by omega), gt_set l _ (by omega), if_neg (by omega)]
theorem gt_mem {l : List Int} {x : Int} : x ∈ l ↔ ∃ i, i < l.length ∧ gt l i = x := by
  constructor
  · intro h
    obtain ⟨i, hi⟩ := List.getElem?_of_mem h
    have hl : i < l.length := by
      rcases Nat.lt_or_ge i l.length with e | e
      · exact e
      · rw [List.getElem?_eq_none e] at hi; cases hi
    rw [gt_get hl] at hi
    exact ⟨i, hl, Option.some.inj hi⟩
  · rintro ⟨i, h1, h2⟩
    rw [← h2]
    exact List.mem_of_getElem? (gt_get h1)
set_option maxRecDepth 100000 in
set_option maxHeartbeats 4000000 in
theorem compact86 (w : World) (B g n c : Nat) (l : List Int) (hD : Dr w B g n c l) (hs : Sorted l) (h0 : 0 < n) (hn : n ≤ 1000000) :
    Calls Tryz.prog 72 #[.slice (some ⟨g, 0, none⟩) n c] w fun e w' => ∃ k : Nat, e = .returned (.slice (some ⟨g, 0, none⟩) k c) ∧ 0 < k ∧ k ≤ n ∧ ∃ l', Dr w' B g k c l' ∧ (∀ i j, i < j → j < k → gt l' i < gt l' j) ∧ (∀ x, x ∈ l' ↔ x ∈ l) ∧ Kp (fun k => k = g) w w' := by
  have mixed : Tryz.prog.follows .mixedOrders = true := by kernel_rfl
  have hl := hD.len
  have HW : Hid (∀ (w' : World) (l' : List Int) (k : Nat), Cp l l' k n → Dr w' B g n c l' → 0 < k ∧ k ≤ n ∧ Dr w' B g k c (l'.take k) ∧ (∀ i j, i < j → j < k → gt (l'.take k) i < gt (l'.take k) j) ∧ ∀ x, x ∈ l'.take k ↔ x ∈ l) := hide (fun w' l' k hC hR => by
    have kr := hC.kr
    have ll := hC.len
    refine ⟨hC.k0, kr, hR.take kr, fun i j i1 i2 => ?_, fun x => ?_⟩
    · rw [gt_take (by omega), gt_take (by omega)]; exact hC.inc i j i1 i2
    · rw [gt_mem, gt_mem, List.length_take, Nat.min_eq_left (by omega), hl, ← hC.mem x]
      constructor
      · rintro ⟨i, i1, i2⟩; exact ⟨i, i1, by rw [gt_take i1] at i2; exact i2⟩
      · rintro ⟨i, i1, i2⟩; exact ⟨i, i1, by rw [gt_take i1]; exact i2⟩)
  have hnI : (n : Int) ≤ 1000000 := by omega
  have hn0 : (0 : Int) < (n : Int) := by omega
  have hcn : n ≤ c := by
    rcases hD.own.2 with ⟨e0, _⟩ | ⟨g', cap', cur, e0, _, _, h1, _⟩
    · cases e0
    · cases e0; exact h1
  have HS := hide hs
  have HD := hide hD
  clear hs hD
  by_cases h2 : n < 2
  · have h2I : (n : Int) < 2 := by omega
    have e1 : n = 1 := by omega
    go_enter Tryz.func72, Tryz.ntmps72
    go_wp2
    go_ret
    obtain ⟨q1, q2, q3, q4, q5⟩ := HW.out w l n (by rw [e1]; exact Cp.start (by omega)) HD.out
    exact ⟨n, rfl, q1, q2, _, q3, q4, q5, Kp.refl _ _⟩
  · have h2I : ¬ (n : Int) < 2 := by omega
    go_enter Tryz.func72, Tryz.ntmps72
    go_wp2
    go_loopw [3] (fun kv wr => ∃ k : Nat, kv = .int .i64 (k : Int) ∧ 1 ≤ k ∧ k ≤ n ∧ Hid (Dr wr B g n c l ∧ Cp l l k k ∧ Kp (fun k => k = g) w wr)) (fun kv _ => n - (intOf kv).toNat)
    case atStart => exact ⟨1, rfl, by omega, by omega, hide ⟨HD.out, Cp.start (by omega), Kp.refl _ _⟩⟩
    case round =>
      obtain ⟨k, rfl, hk1, hkn, hI⟩ := hrel
      clear HD
      have hk0 : (0 : Int) ≤ (k : Int) := by omega
      obtain ⟨h1, h3, h4⟩ := hI.out
      by_cases hc : k < n
      · have hcI : (k : Int) < (n : Int) := by omega
        have f1 : (0 : Int) ≤ (k : Int) - 1 := by omega
        have f2 : (k : Int) - 1 < (n : Int) := by omega
        have f3 : ((k : Int) - 1).toNat = k - 1 := by omega
        have f4 : IntKind.i64.wrap ((k : Int) - 1) = (k : Int) - 1 := by rw [IntKind.wrap_i64]; omega
        have f6 : (k : Int).toNat = k := by omega
        obtain ⟨y1, _⟩ := h1.at_ (k := k) (by omega)
        obtain ⟨y2, _⟩ := h1.at_ (k := k - 1) (by omega)
        have HJ := hide (And.intro h1 (And.intro h3 h4))
        by_cases he : gt l k = gt l (k - 1)
        · have db : (gt l k == gt l (k - 1)) = true := by simpa using he
          have f7 : (k : Int) ≤ (n : Int) := by omega
          have f8 : (n : Int) ≤ (c : Int) := by omega
          clear h1 h3 h4 hI
          go_wp2_with fail
          go_region
          go_wp2
          go_loopw [3, 5] (fun kv jv wr => ∃ kk j : Nat, kv = .int .i64 (kk : Int) ∧ jv = .int .i64 (j : Int) ∧ 1 ≤ j ∧ k + j ≤ n ∧ kk < k + j ∧ 0 < kk ∧ Hid (∃ l', Dr wr B g n c l' ∧ Cp l l' kk (k + j) ∧ Kp (fun k => k = g) w wr)) (fun _ jv _ => n - (intOf jv).toNat)
          case atStart =>
            obtain ⟨h1, h3, h4⟩ := HJ.out
            exact ⟨k, 1, rfl, rfl, by omega, by omega, by omega, by omega, hide ⟨l, h1.drew, h3.same (by omega) he, h4.drew⟩⟩
          case round =>
            obtain ⟨kk, j, rfl, rfl, hj1, hjn, hkj, hkk0, hI⟩ := hrel
            clear HJ y1 y2
            have hj0 : (0 : Int) ≤ (j : Int) := by omega
            have hkk0I : (0 : Int) ≤ (kk : Int) := by omega
            have ekk : (kk : Int).toNat = kk := by omega
            have kkn : (kk : Int) < (n : Int) := by omega
            have kkl : (kk : Int) ≤ (n : Int) := by omega
            obtain ⟨l', h1, h3, h4⟩ := hI.out
            have hl' := h1.len
            by_cases hc2 : k + j < n
            · have hc2I : (j : Int) < ((n - k : Nat) : Int) := by omega
              have g1 : (0 : Int) ≤ (j : Int) - 1 := by omega
              have g2 : (j : Int) - 1 < ((n - k : Nat) : Int) := by omega
              have g3 : ((j : Int) - 1).toNat = j - 1 := by omega
              have g4 : IntKind.i64.wrap ((j : Int) - 1) = (j : Int) - 1 := by rw [IntKind.wrap_i64]; omega
              have g6 : (j : Int).toNat = j := by omega
              have u1 : gt l' (k + j) = gt l (k + j) := h3.out _ (by omega)
              have u2 : gt l' (k + (j - 1)) = gt l (k + (j - 1)) := by
                by_cases e : kk ≤ k + (j - 1)
                · exact h3.out _ e
                · have q := h3.last
                  rw [show kk - 1 = k + (j - 1) by omega, show k + j - 1 = k + (j - 1) by omega] at q
                  exact q
              obtain ⟨y1, _⟩ := h1.at_ (k := k + j) (by omega)
              obtain ⟨y2, _⟩ := h1.at_ (k := k + (j - 1)) (by omega)
              obtain ⟨y3, z3⟩ := h1.at_ (k := kk) (by omega)
              rw [u1] at y1
              rw [u2] at y2
              have HJ := hide (And.intro h1 (And.intro h3 h4))
              by_cases he2 : gt l (k + j) = gt l (k + (j - 1))
              · have dc : (gt l (k + j) != gt l (k + (j - 1))) = false := by simp [he2]
                clear h1 h3 h4 hI u1 u2
                go_wp2_with fail
                go_region
                go_wp2
                obtain ⟨h1, h3, h4⟩ := HJ.out
                exact ⟨⟨kk, j + 1, rfl, by go_num, by omega, by omega, by omega, hkk0, hide ⟨l', h1.drew, h3.same (by omega) (by rw [show k + j - 1 = k + (j - 1) by omega]; exact he2), h4.drew⟩⟩, by simp [intOf]; omega⟩
              · have dc : (gt l (k + j) != gt l (k + (j - 1))) = true := by simpa using he2
                clear h1 h3 h4 hI u1 u2
                go_wp2_with fail
                go_region
                go_wp2_with fail
                obtain ⟨h1, h3, h4⟩ := HJ.out
                exact ⟨⟨kk + 1, j + 1, by go_num, by go_num, by omega, by omega, by omega, by omega, hide ⟨_, (h1.set (k := kk) (by omega) (gt l (k + j))).drew, h3.next (by omega) (by rw [show k + j - 1 = k + (j - 1) by omega]; have := HS.out (k + (j - 1)) (k + j) (by omega) (by omega); omega), (h4.andSet _ _ (.inr rfl)).drew⟩⟩, by simp [intOf]; omega⟩
            · have hc2I : ¬ (j : Int) < ((n - k : Nat) : Int) := by omega
              have ekn : k + j = n := by omega
              have hcl : ∀ ty, (Builtin.clear_ #[23] ty #[.slice (some ⟨g, kk, none⟩) (n - kk) (c - kk)]).run Tryz.prog wr = .ok (.tuple #[]) (wr.setCells g kk (List.replicate (n - kk) (.int .u64 0))) :=
                fun ty => Lib.run_clear_slice wr 23 24 ty (.int .u64 0) Tryz.underlying23 Tryz.zeroValue24 rfl rfl g kk _ _ (by omega) (fun i hi => by rw [(h1.at_ (k := kk + i) (by omega)).1]; rfl) (fun i hi => (h1.at_ (k := kk + i) (by omega)).2)
              have HJ := hide (And.intro h1 (And.intro h3 h4))
              clear h1 h3 h4 hI
              go_wp2_with (simp only [hcl])
              go_ret
              obtain ⟨h1, h3, h4⟩ := HJ.out
              rw [ekn] at h3
              obtain ⟨l2, z1, z2, z3⟩ := Dr.zero (n - kk) (k := kk) h1 (by omega)
              have hz := z1.len
              obtain ⟨q1, q2, q3, q4, q5⟩ := HW.out _ l' kk h3 h1
              have e : l2.take kk = l'.take kk := ext_gt (by simp; omega) (fun i hi => by
                have hi2 : i < kk := by simp at hi; omega
                rw [gt_take hi2, gt_take hi2, z2 i hi2])
              have q3' := z1.take (k := kk) (by omega)
              rw [e] at q3'
              exact ⟨kk, rfl, q1, q2, _, q3', q4, q5, h4.trans z3 (fun _ _ e => e)⟩
        · have db : (gt l k == gt l (k - 1)) = false := by simpa using he
          clear h1 h3 h4 hI
          go_wp2_with fail
          go_region
          go_wp2
          obtain ⟨h1, h3, h4⟩ := HJ.out
          exact ⟨⟨k + 1, by go_num, by omega, by omega, hide ⟨h1.drew, h3.go (by omega) (HS.out.lt (by omega) (by omega) he), h4.drew⟩⟩, by simp [intOf]; omega⟩
      · have hcI : ¬ (k : Int) < (n : Int) := by omega
        have ek : k = n := by omega
        have HJ := hide (And.intro h1 (And.intro h3 h4))
        clear h1 h3 h4 hI
        go_wp2
        go_ret
        obtain ⟨h1, h3, h4⟩ := HJ.out
        obtain ⟨q1, q2, q3, q4, q5⟩ := HW.out _ l n (by rw [ek] at h3; exact h3) h1
        exact ⟨n, rfl, q1, q2, _, q3, q4, q5, h4⟩
end Go.Proofs.YtbifmcadllilhaaGreat.Rg
namespace Go.Proofs.YtbifmcadllilhaaGreat.Rg
open Go.RowKit Go.Shelf Go.Sort
set_option linter.unusedVariables false
/-- whose place q below node n of height d is: 255 at a node says that the two below it count -/
def who (t : List Int) : Nat → Nat → Nat → Int
  | 0, n, _ => gt t n
  | d + 1, n, q => if gt t n ≠ 255 then gt t n else if q < 2 ^ d then who t d (2 * n) q else who t d (2 * n + 1) (q - 2 ^ d)
/-- below a node of height d: the numbers n * 2^e to n * 2^e + 2^e - 1, e ≤ d -/
def Below_ (d n k : Nat) : Prop := ∃ e, e ≤ d ∧ n * 2 ^ e ≤ k ∧ k < (n + 1) * 2 ^ e
theorem below_self (d n : Nat) : Below_ d n n := ⟨0, by omega, by omega, by omega⟩
theorem below_left {d n k : Nat} (h : Below_ d (2 * n) k) : Below_ (d + 1) n k := by
  obtain ⟨e, e1, e2, e3⟩ := h
  have pe := Nat.two_pow_pos e
  refine ⟨e + 1, by omega, ?_, ?_⟩
  · rw [Nat.pow_succ, Nat.mul_comm (2 ^ e) 2, ← Nat.mul_assoc, Nat.mul_comm n 2]; exact e2
  · have : (n + 1) * 2 ^ (e + 1) = (2 * n + 1) * 2 ^ e + 2 ^ e := by
      rw [Nat.pow_succ, Nat.mul_comm (2 ^ e) 2, ← Nat.mul_assoc, show (n + 1) * 2 = (2 * n + 1) + 1 by omega, Nat.add_mul ((2 * n + 1)) 1, Nat.one_mul]
    generalize 2 ^ e = P at *
    omega
theorem below_right {d n k : Nat} (h : Below_ d (2 * n + 1) k) : Below_ (d + 1) n k := by
  obtain ⟨e, e1, e2, e3⟩ := h
  have pe := Nat.two_pow_pos e
  refine ⟨e + 1, by omega, ?_, ?_⟩
  · have : (2 * n + 1) * 2 ^ e = n * 2 ^ (e + 1) + 2 ^ e := by
      rw [Nat.pow_succ, Nat.mul_comm (2 ^ e) 2, ← Nat.mul_assoc, Nat.mul_comm n 2, Nat.add_mul, Nat.one_mul]
    generalize 2 ^ e = P at *
    omega
  · have : (n + 1) * 2 ^ (e + 1) = (2 * n + 1 + 1) * 2 ^ e := by
      rw [Nat.pow_succ, Nat.mul_comm (2 ^ e) 2, ← Nat.mul_assoc, show (n + 1) * 2 = 2 * n + 1 + 1 by omega]
    omega
/-- what is not below a node doesn't count for it -/
theorem who_same {t t' : List Int} : ∀ {d n q : Nat}, (∀ k, Below_ d n k → gt t' k = gt t k) → who t' d n q = who t d n q
  | 0, n, q, h => by unfold who; exact h n (below_self _ _)
  | d + 1, n, q, h => by
    unfold who
    rw [h n (below_self _ _), who_same (fun k hk => h k (below_left hk)), who_same (fun k hk => h k (below_right hk))]
theorem who_all {t : List Int} {d n q : Nat} (h : gt t n ≠ 255) : who t d n q = gt t n := by
  cases d with
  | zero => rfl
  | succ d => unfold who; rw [if_pos h]
theorem who_mixed {t : List Int} {d n q : Nat} (h : gt t n = 255) : who t (d + 1) n q = if q < 2 ^ d then who t d (2 * n) q else who t d (2 * n + 1) (q - 2 ^ d) := by
  rw [who, if_neg (by simp [h])]
/-- who asks the two below, whatever the node says, if they say so too -/
theorem who_down {t : List Int} {d n q : Nat} (hl : gt t n ≠ 255 → gt t (2 * n) = gt t n) (hr : gt t n ≠ 255 → gt t (2 * n + 1) = gt t n) : who t (d + 1) n q = if q < 2 ^ d then who t d (2 * n) q else who t d (2 * n + 1) (q - 2 ^ d) := by
  by_cases e : gt t n = 255
  · exact who_mixed e
  · rw [who_all e, who_all (n := 2 * n) (by rw [hl e]; exact e), who_all (n := 2 * n + 1) (by rw [hr e]; exact e), hl e, hr e]
    split <;> rfl
end Go.Proofs.YtbifmcadllilhaaGreat.Rg
namespace Go.Proofs.YtbifmcadllilhaaGreat.Rg
open Go.RowKit Go.Shelf Go.Sort
set_option linter.unusedVariables false
theorem pow_gap {e f : Nat} (h : e < f) : 2 * 2 ^ e ≤ 2 ^ f := by
  have : 2 ^ (e + 1) ≤ 2 ^ f := Nat.pow_le_pow_right (by omega) (by omega)
  rw [Nat.pow_succ] at this
  omega
/-- a node is not below those below it -/
theorem below_gt {d n m k : Nat} (h : Below_ d m k) (hm : n < m) : n < k := by
  obtain ⟨e, e1, e2, e3⟩ := h
  have pe := Nat.two_pow_pos e
  have : m * 1 ≤ m * 2 ^ e := Nat.mul_le_mul_left _ pe
  omega
/-- the two below a node share nothing -/
theorem below_apart {d d' n k : Nat} (hn : 0 < n) (h1 : Below_ d (2 * n) k) (h2 : Below_ d' (2 * n + 1) k) : False := by
  obtain ⟨e, _, e2, e3⟩ := h1
  obtain ⟨f, _, f2, f3⟩ := h2
  have pe := Nat.two_pow_pos e
  have pf := Nat.two_pow_pos f
  rcases Nat.lt_trichotomy e f with h | h | h
  · have g := Nat.mul_le_mul_left (2 * n + 1) (pow_gap h)
    have g2 : (2 * n + 1) * 2 ^ e ≤ (2 * n + 1) * (2 * 2 ^ e) := Nat.mul_le_mul_left _ (by omega)
    omega
  · subst h
    omega
  · have g := Nat.mul_le_mul_left (2 * n) (pow_gap h)
    have g2 : (2 * n + 1 + 1) * 2 ^ f ≤ 2 * n * (2 * 2 ^ f) := by
      rw [← Nat.mul_assoc]
      exact Nat.mul_le_mul_right _ (by omega)
    omega
/-- gather -/
theorem who_gather {t t' : List Int} {d n : Nat} (hn : 0 < n) (hs : ∀ k, k ≠ n → gt t' k = gt t k) (hv : gt t' n = if gt t (2 * n) ≠ gt t (2 * n + 1) then 255 else gt t (2 * n)) (q : Nat) : who t' (d + 1) n q = if q < 2 ^ d then who t d (2 * n) q else who t d (2 * n + 1) (q - 2 ^ d) := by
  have l : ∀ q, who t' d (2 * n) q = who t d (2 * n) q := fun q => who_same (fun k hk => hs k (by have := below_gt hk (n := n) (by omega); omega))
  have r : ∀ q, who t' d (2 * n + 1) q = who t d (2 * n + 1) q := fun q => who_same (fun k hk => hs k (by have := below_gt hk (n := n) (by omega); omega))
  rw [who_down (t := t')]
  · rw [l, r]
  · intro e
    by_cases c : gt t (2 * n) = gt t (2 * n + 1)
    · rw [hv, if_neg (by simp [c]), hs _ (by omega)]
    · rw [hv, if_pos c] at e; exact absurd rfl e
  · intro e
    by_cases c : gt t (2 * n) = gt t (2 * n + 1)
    · rw [hv, if_neg (by simp [c]), hs _ (by omega), c]
    · rw [hv, if_pos c] at e; exact absurd rfl e
/-- handDown: then the two below count -/
theorem who_hand {t t' : List Int} {d n : Nat} (hn : 0 < n) (hs : ∀ k, k ≠ 2 * n → k ≠ 2 * n + 1 → gt t' k = gt t k) (hm : gt t n = 255 → gt t' (2 * n) = gt t (2 * n) ∧ gt t' (2 * n + 1) = gt t (2 * n + 1)) (hv : gt t n ≠ 255 → gt t' (2 * n) = gt t n ∧ gt t' (2 * n + 1) = gt t n) (q : Nat) : who t (d + 1) n q = if q < 2 ^ d then who t' d (2 * n) q else who t' d (2 * n + 1) (q - 2 ^ d) := by
  by_cases e : gt t n = 255
  · have all : ∀ k, gt t' k = gt t k := fun k => by
      by_cases c1 : k = 2 * n
      · rw [c1]; exact (hm e).1
      · by_cases c2 : k = 2 * n + 1
        · rw [c2]; exact (hm e).2
        · exact hs k c1 c2
    rw [who_mixed e, who_same (t := t) (t' := t') (fun k _ => all k), who_same (t := t) (t' := t') (fun k _ => all k)]
  · rw [who_all e, who_all (t := t') (n := 2 * n) (by rw [(hv e).1]; exact e), who_all (t := t') (n := 2 * n + 1) (by rw [(hv e).2]; exact e), (hv e).1, (hv e).2]
    split <;> rfl
end Go.Proofs.YtbifmcadllilhaaGreat.Rg
namespace Go.Proofs.YtbifmcadllilhaaGreat.Rg
open Go.RowKit Go.Shelf Go.Sort
set_option linter.unusedVariables false
def ucs8 (l : List Int) : List Value := l.map (Value.int .u8)
theorem ucs8_len (l : List Int) : (ucs8 l).length = l.length := by simp [ucs8]
/-- the owners' tree in memory -/
structure Tr (w : World) (B pb g n c wd : Nat) (t : List Int) : Prop where
  own : w.ownsRow B 36 1 (.slice (some ⟨g, 0, none⟩) n c) n (ucs8 t)
  len : t.length = n
  ne : g ≠ pb
  wid : w.cell? ⟨pb, 0, none⟩ = some (.int .i64 (wd : Int))
  row : w.cell? ⟨pb, 1, none⟩ = some (.slice (some ⟨g, 0, none⟩) n c)
theorem Tr.at_ {w : World} {B pb g n c wd : Nat} {t : List Int} (h : Tr w B pb g n c wd t) {k : Nat} (hk : k < n) : w.cell? ⟨g, k, none⟩ = some (.int .u8 (gt t k)) ∧ w.frozen? ⟨g, k, none⟩ = false := by
  have hl := h.len
  have ho := h.own
  have e : (ucs8 t).length = n := by rw [ucs8_len]; exact hl
  rw [← e] at ho
  have hi : (ucs8 t)[k]? = some (.int .u8 (gt t k)) := by unfold ucs8; rw [List.getElem?_map, gt_get (by omega)]; rfl
  obtain ⟨r, cap, e2, _, h1, cur, h2⟩ := row1_at ho hi
  simp only [Value.slice.injEq, Option.some.injEq, Addr.mk.injEq, and_true] at e2
  obtain ⟨rfl, _⟩ := e2
  exact ⟨h1, free3 h2 k⟩
theorem Tr.set {w : World} {B pb g n c wd : Nat} {t : List Int} (h : Tr w B pb g n c wd t) {k : Nat} (hk : k < n) (x : Int) : Tr (w.setCell ⟨g, k, none⟩ (.int .u8 x)) B pb g n c wd (t.set k x) := by
  have hne := h.ne
  refine ⟨?_, by rw [List.length_set]; exact h.len, hne, ?_, ?_⟩
  · have e : ucs8 (t.set k x) = (ucs8 t).set k (.int .u8 x) := by unfold ucs8; rw [List.map_set]
    rw [e]
    exact own_put h.own k _ (by rw [ucs8_len, h.len]; exact hk)
  · rw [World.cell?_setCell_other _ _ _ _ (by intro e; simp at e <;> omega)]; exact h.wid
  · rw [World.cell?_setCell_other _ _ _ _ (by intro e; simp at e <;> omega)]; exact h.row
theorem Tr.drew {w : World} {B pb g n c wd : Nat} {t : List Int} (h : Tr w B pb g n c wd t) : Tr w.drew B pb g n c wd t := ⟨h.own, h.len, h.ne, h.wid, h.row⟩
/-- what a node says of the two below it -/
def gv (t : List Int) (m : Nat) : Int := if gt t (2 * m) ≠ gt t (2 * m + 1) then 255 else gt t (2 * m)
set_option maxRecDepth 100000 in
set_option maxHeartbeats 2000000 in
theorem gather88 (w : World) (B pb g n c wd : Nat) (t : List Int) (m : Nat) (hT : Tr w B pb g n c wd t) (hm0 : 0 < m) (hm : 2 * m + 1 < n) (hn : n ≤ 1000000) :
    Calls Tryz.prog 74 #[.pointer (some ⟨pb, 0, none⟩), .int .i64 (m : Int)] w fun e w' => e = .returned (.tuple #[]) ∧ ∃ t', Tr w' B pb g n c wd t' ∧ (∀ k, k ≠ m → gt t' k = gt t k) ∧ gt t' m = gv t m ∧ Kp (fun k => k = g) w w' := by
  have mixed : Tryz.prog.follows .mixedOrders = true := by kernel_rfl
  have m0 : (0 : Int) ≤ (m : Int) := by omega
  have mn : (m : Int) < (n : Int) := by omega
  have em : (m : Int).toNat = m := by omega
  obtain ⟨p, hp⟩ : ∃ p : Nat, p = 2 * m := ⟨_, rfl⟩
  have v1 : IntKind.i64.wrap (2 * (m : Int)) = (p : Int) := by rw [IntKind.wrap_i64]; omega
  have v2 : 2 * (m : Int) = (p : Int) := by omega
  have p0 : (0 : Int) ≤ (p : Int) := by omega
  have pn : (p : Int) < (n : Int) := by omega
  have ep : (p : Int).toNat = p := by omega
  have v3 : IntKind.i64.wrap ((p : Int) + 1) = (p : Int) + 1 := by rw [IntKind.wrap_i64]; omega
  have q0 : (0 : Int) ≤ (p : Int) + 1 := by omega
  have qn : (p : Int) + 1 < (n : Int) := by omega
  have eq : ((p : Int) + 1).toNat = p + 1 := by omega
  have hl := hT.len
  have r1 := hT.row
  obtain ⟨y1, z1⟩ := hT.at_ (k := m) (by omega)
  obtain ⟨y2, z2⟩ := hT.at_ (k := p) (by omega)
  have H1 := hT.set (k := m) (by omega) (gt t p)
  have g1 : ∀ k, gt (t.set m (gt t p)) k = if k = m then gt t p else gt t k := fun k => gt_set t _ (by omega)
  obtain ⟨y3, z3⟩ := H1.drew.at_ (k := p) (by omega)
  obtain ⟨y4, z4⟩ := H1.drew.at_ (k := p + 1) (by omega)
  obtain ⟨y5, z5⟩ := H1.drew.at_ (k := m) (by omega)
  have r2 := H1.drew.row
  rw [g1, if_neg (by omega)] at y3 y4
  have HT := hide (And.intro hT H1)
  have HP := hide hp
  have HG := hide g1
  have k1 : Kp (fun k => k = g) w (w.setCell ⟨g, m, none⟩ (.int .u8 (gt t p))).drew := ((Kp.refl (fun k => k = g) w).andSet ⟨g, m, none⟩ _ (.inr rfl)).drew
  clear hT H1 g1 hp
  go_enter Tryz.func74, Tryz.ntmps74
  go_wp2_with fail
  go_region
  obtain ⟨W, hW⟩ : ∃ W, (w.setCell ⟨g, m, none⟩ (.int .u8 (gt t p))).drew = W := ⟨_, rfl⟩
  have HT2 : Hid (Tr W B pb g n c wd (t.set m (gt t p))) := by rw [← hW]; exact hide HT.out.2.drew
  rw [hW] at k1 y3 z3 y4 z4 y5 z5 r2 ⊢
  clear hW y1 z1 y2 z2 r1
  by_cases he : gt t p = gt t (p + 1)
  · have db : (gt t p != gt t (p + 1)) = false := by simp [he]
    go_wp2_with fail
    go_region
    go_wp2
    go_end0
    have hp := HP.out
    refine ⟨rfl, _, HT2.out.drew, fun k hk => by rw [HG.out, if_neg hk], ?_, k1.drew⟩
    rw [HG.out, if_pos rfl, gv, ← hp, if_neg (by simp [he])]
  · have db : (gt t p != gt t (p + 1)) = true := by simpa using he
    go_wp2_with fail
    go_region
    go_wp2_with fail
    go_end0
    have hp := HP.out
    have hl2 := HT2.out.len
    refine ⟨rfl, _, (HT2.out.set (k := m) (by omega) 255).drew, fun k hk => ?_, ?_, (k1.andSet ⟨g, m, none⟩ _ (.inr rfl)).drew⟩
    · rw [gt_set _ _ (by omega), if_neg hk, HG.out, if_neg hk]
    · rw [gt_set _ _ (by omega), if_pos rfl, gv, ← hp, if_pos he]
end Go.Proofs.YtbifmcadllilhaaGreat.Rg
namespace Go.Proofs.YtbifmcadllilhaaGreat.Rg
open Go.RowKit Go.Shelf Go.Sort
set_option linter.unusedVariables false
/-- what handDown leaves -/
structure Hd (t t' : List Int) (m : Nat) : Prop where
  far : ∀ k, k ≠ 2 * m → k ≠ 2 * m + 1 → gt t' k = gt t k
  mix : gt t m = 255 → gt t' (2 * m) = gt t (2 * m) ∧ gt t' (2 * m + 1) = gt t (2 * m + 1)
  one : gt t m ≠ 255 → gt t' (2 * m) = gt t m ∧ gt t' (2 * m + 1) = gt t m
set_option maxRecDepth 100000 in
set_option maxHeartbeats 2000000 in
theorem hand93 (w : World) (B pb g n c wd : Nat) (t : List Int) (m : Nat) (hT : Tr w B pb g n c wd t) (hm0 : 0 < m) (hm : 2 * m + 1 < n) (hn : n ≤ 1000000) :
    Calls Tryz.prog 79 #[.pointer (some ⟨pb, 0, none⟩), .int .i64 (m : Int)] w fun e w' => e = .returned (.tuple #[]) ∧ ∃ t', Tr w' B pb g n c wd t' ∧ Hd t t' m ∧ Kp (fun k => k = g) w w' := by
  have mixed : Tryz.prog.follows .mixedOrders = true := by kernel_rfl
  have m0 : (0 : Int) ≤ (m : Int) := by omega
  have mn : (m : Int) < (n : Int) := by omega
  have em : (m : Int).toNat = m := by omega
  obtain ⟨p, hp⟩ : ∃ p : Nat, p = 2 * m := ⟨_, rfl⟩
  have v1 : IntKind.i64.wrap (2 * (m : Int)) = (p : Int) := by rw [IntKind.wrap_i64]; omega
  have v2 : 2 * (m : Int) = (p : Int) := by omega
  have p0 : (0 : Int) ≤ (p : Int) := by omega
  have pn : (p : Int) < (n : Int) := by omega
  have ep : (p : Int).toNat = p := by omega
  have v3 : IntKind.i64.wrap ((p : Int) + 1) = (p : Int) + 1 := by rw [IntKind.wrap_i64]; omega
  have q0 : (0 : Int) ≤ (p : Int) + 1 := by omega
  have qn : (p : Int) + 1 < (n : Int) := by omega
  have eq : ((p : Int) + 1).toNat = p + 1 := by omega
  have hl := hT.len
  have r1 := hT.row
  obtain ⟨y1, z1⟩ := hT.at_ (k := m) (by omega)
  obtain ⟨y2, z2⟩ := hT.at_ (k := p) (by omega)
  obtain ⟨y3, z3⟩ := hT.at_ (k := p + 1) (by omega)
  have H1 := hT.set (k := p) (by omega) (gt t m)
  have r2 := H1.row
  obtain ⟨y4, z4⟩ := H1.at_ (k := p + 1) (by omega)
  have H2 := H1.set (k := p + 1) (by omega) (gt t m)
  have g1 : ∀ k, gt ((t.set p (gt t m)).set (p + 1) (gt t m)) k = if k = p + 1 then gt t m else if k = p then gt t m else gt t k := fun k => by
    rw [gt_set _ _ (by rw [List.length_set]; omega), gt_set _ _ (by omega)]
  have HT := hide (And.intro hT H2)
  have HP := hide hp
  have HG := hide g1
  clear hT H1 H2 g1 hp
  by_cases he : gt t m = 255
  · have db : (gt t m != 255) = false := by simp [he]
    go_enter Tryz.func79, Tryz.ntmps79
    go_wp2
    go_end0
    exact ⟨rfl, t, HT.out.1, ⟨fun _ _ _ => rfl, fun _ => ⟨rfl, rfl⟩, fun e => absurd he e⟩, Kp.refl _ _⟩
  · have db : (gt t m != 255) = true := by simpa using he
    go_enter Tryz.func79, Tryz.ntmps79
    go_wp2_with fail
    go_region
    go_wp2
    go_end0
    have hp := HP.out
    refine ⟨rfl, _, HT.out.2.drew, ⟨fun k k1 k2 => ?_, fun e => absurd e he, fun _ => ⟨?_, ?_⟩⟩, (((Kp.refl (fun k => k = g) w).andSet ⟨g, p, none⟩ _ (.inr rfl)).andSet ⟨g, p + 1, none⟩ _ (.inr rfl)).drew⟩
    · rw [HG.out, if_neg (by omega), if_neg (by omega)]
    · rw [HG.out, if_neg (by omega), if_pos (by omega)]
    · rw [HG.out, if_pos (by omega)]
end Go.Proofs.YtbifmcadllilhaaGreat.Rg
