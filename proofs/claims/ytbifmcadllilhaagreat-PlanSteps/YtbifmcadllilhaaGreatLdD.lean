import Derived.Test.YtbifmcadllilhaaGreatLdA
namespace Go.Proofs.YtbifmcadllilhaaGreat.Rg
open Go.RowKit Go.Shelf Go.Sort
open Go.Proofs.YtbifmcadllilhaaGreat.It
set_option linter.unusedVariables false

set_option maxRecDepth 100000 in
set_option maxHeartbeats 1000000 in
theorem lay_newB (base : Nat) (w : World) (u : Value) (s : Sg) (A : List Sg) (t : Sg) (hne : t.h ≠ s.h) (hA : A.length + 2 ≤ 5864062014700) (hown : w.ownsRow base 38 3 u (A.length + 1) (cells (A ++ [t]))) (hb : base ≤ w.heap.size) :
    Calls Tryz.prog 70 #[u, enc s] w fun e w' => ∃ u', e = .returned u' ∧ w'.ownsRow base 38 3 u' (A.length + 2) (cells (A ++ [t] ++ [s])) ∧ Kp (fun k => some k = u.ownBlock) w w' := by
  have mixed : Tryz.prog.follows .mixedOrders = true := by kernel_rfl
  obtain ⟨i0, hi, hz0, hz1, hz2⟩ := info_parts info40
  have ht : (A ++ [t])[A.length]? = some t := by simp
  have hl : (A ++ [t]).length = A.length + 1 := by simp
  have hown2 : w.ownsRow base 38 3 u (A ++ [t]).length (cells (A ++ [t])) := by rw [hl]; exact hown
  obtain ⟨r, cap, hu, x0, x1, x2⟩ := row_at hown2 ht
  rw [hl] at hu
  have HR : Hid ((((w.alloc (.cells #[.int .u64 s.lo, .int .u64 s.hi, .int .u8 s.h] 38)).alloc (.cells #[.int .u64 s.lo, .int .u64 s.hi, .int .u8 s.h] 38)).drew).ownsRow base 38 3 u (A.length + 1) (cells (A ++ [t]))) := (hown.alloc _).alloc _
  have HU : Hid (∀ g, u.ownBlock = some g → g < w.heap.size) := fun g hg => own_lt hown hg
  have hrlt : r < w.heap.size := HU.out r (by rw [hu]; rfl)
  have y2 : (w.alloc (.cells #[.int .u64 s.lo, .int .u64 s.hi, .int .u8 s.h] 38)).drew.cell? ⟨r, A.length * 3 + 2, none⟩ = some (.int .u8 t.h) := (World.cell?_of_block (Below.heap_alloc w _ r hrlt)).trans x2
  have heq : (t.h == s.h) = false := by simpa using hne
  generalize A.length = N at *
  have HT : Hid (∀ j z, [.int .u64 s.lo, .int .u64 s.hi, .int .u8 s.h][j]? = some z → ((w.alloc (.cells #[.int .u64 s.lo, .int .u64 s.hi, .int .u8 s.h] 38)).alloc (.cells #[.int .u64 s.lo, .int .u64 s.hi, .int .u8 s.h] 38)).drew.cell? ((⟨w.heap.size + 1, 0, none⟩ : Addr).add j) = some z) := by
    have := cell_three_new (w.alloc (.cells #[.int .u64 s.lo, .int .u64 s.hi, .int .u8 s.h] 38)) (.int .u64 s.lo) (.int .u64 s.hi) (.int .u8 s.h) 38
    rw [World.size_alloc] at this
    exact this
  have K2 : Kp (fun k => some k = u.ownBlock) w ((w.alloc (.cells #[.int .u64 s.lo, .int .u64 s.hi, .int .u8 s.h] 38)).alloc (.cells #[.int .u64 s.lo, .int .u64 s.hi, .int .u8 s.h] 38)).drew := ((Kp.alloc w _ _).andAlloc _).drew
  have HK := hide K2
  subst hu
  clear hown K2
  clear hown2 x0 x1 x2 ht hl hne
  unfold enc
  go_enter Tryz.func70, Tryz.ntmps70
  go_wp2_with fail
  go_region
  go_wp2_with (first
    | (at_builtin; refine wpList_append_own _ rfl _ _ 22 rfl base 38 i0 (.agg #[.int .u64 0, .int .u64 0, .int .u8 0]) 3 24 Tryz.underlying22 hi hz0 hz1 hz2 rfl (by decide) _ _ _ rfl HR.out ⟨w.heap.size + 1, 0, none⟩ 1 1 [.int .u64 s.lo, .int .u64 s.hi, .int .u8 s.h] rfl rfl HT.out (by simp [Value.oneCell']) (by unfold maxLen; omega) (by omega) (by simp; omega) ?_; intro v' w3 hown' hg3 hnil3; obtain ⟨ad3, cp3, ev3⟩ := own_slice hown'; have HO := hide hown'; have HG3 := hide hg3; subst ev3; clear hown' hg3 hnil3)
    | go_in)
  go_ret
  refine ⟨_, rfl, ?_, HK.out.trans (Kp.of_grown HG3.out) (fun i hi e => e)⟩
  have h1 := HO.out
  rw [cells_append]
  exact h1

set_option maxRecDepth 100000 in
set_option maxHeartbeats 1000000 in
theorem lay_sameB (base : Nat) (w : World) (u : Value) (s : Sg) (A : List Sg) (t : Sg) (hne : t.h = s.h) (hA : A.length + 2 ≤ 5864062014700) (hown : w.ownsRow base 38 3 u (A.length + 1) (cells (A ++ [t]))) (hb : base ≤ w.heap.size) :
    Calls Tryz.prog 70 #[u, enc s] w fun e w' => ∃ u', e = .returned u' ∧ w'.ownsRow base 38 3 u' (A.length + 1) (cells (A ++ [⟨t.lo, s.hi, t.h⟩])) ∧ Kp (fun k => some k = u.ownBlock) w w' := by
  have mixed : Tryz.prog.follows .mixedOrders = true := by kernel_rfl
  have ht : (A ++ [t])[A.length]? = some t := by simp
  have hl : (A ++ [t]).length = A.length + 1 := by simp
  have hown2 : w.ownsRow base 38 3 u (A ++ [t]).length (cells (A ++ [t])) := by rw [hl]; exact hown
  obtain ⟨r, cap, hu, x0, x1, x2⟩ := row_at hown2 ht
  rw [hl] at hu
  obtain ⟨r', cap', hu', o1, o2⟩ := own_end hown s.hi
  rw [hu] at hu'
  simp only [Value.slice.injEq, Option.some.injEq, Addr.mk.injEq] at hu'
  obtain ⟨⟨rfl, _⟩, _⟩ := hu'
  have hrlt : r < w.heap.size := own_lt hown (by rw [hu]; rfl)
  have y2 : (w.alloc (.cells #[.int .u64 s.lo, .int .u64 s.hi, .int .u8 s.h] 38)).drew.cell? ⟨r, A.length * 3 + 2, none⟩ = some (.int .u8 t.h) := (World.cell?_of_block (Below.heap_alloc w _ r hrlt)).trans x2
  have y1 : (w.alloc (.cells #[.int .u64 s.lo, .int .u64 s.hi, .int .u8 s.h] 38)).drew.cell? ⟨r, A.length * 3 + 1, none⟩ = some (.int .u64 t.hi) := (World.cell?_of_block (Below.heap_alloc w _ r hrlt)).trans x1
  have heq : (t.h == s.h) = true := by simpa using hne
  have o3 : (w.alloc (.cells #[.int .u64 s.lo, .int .u64 s.hi, .int .u8 s.h] 38)).drew.frozen? ⟨r, A.length * 3 + 1, none⟩ = false := (World.frozen?_of_block (Below.heap_alloc w _ r hrlt)).trans o2
  have HO : Hid ((((w.setCell ⟨r, A.length * 3 + 1, none⟩ (.int .u64 s.hi)).alloc (.cells #[.int .u64 s.lo, .int .u64 s.hi, .int .u8 s.h] 38)).drew).ownsRow base 38 3 u (A.length + 1) (cells (A ++ [⟨t.lo, s.hi, t.h⟩]))) := o1.alloc _
  have hwn : w.heap.size ≠ r := by omega
  have K2 : Kp (fun k => some k = u.ownBlock) w ((w.setCell ⟨r, A.length * 3 + 1, none⟩ (.int .u64 s.hi)).alloc (.cells #[.int .u64 s.lo, .int .u64 s.hi, .int .u8 s.h] 38)).drew := (((Kp.refl _ w).andSet _ _ (.inr (by rw [hu]; rfl))).andAlloc _).drew
  have HK := hide K2
  generalize A.length = N at *
  subst hu
  clear hown hown2 x0 x1 x2 ht hl hne o1 K2
  unfold enc
  go_enter Tryz.func70, Tryz.ntmps70
  go_wp2_with fail
  go_region
  go_wp2
  go_ret
  exact ⟨_, rfl, HO.out, HK.out⟩

/-- what lay answers -/
theorem lay_anyB (base : Nat) (w : World) (u : Value) (A : List Sg) (s : Sg) (hA : A.length + 1 ≤ 5864062014700) (hown : w.ownsRow base 38 3 u A.length (cells A)) (hb : base ≤ w.heap.size) :
    Calls Tryz.prog 70 #[u, enc s] w fun e w' => ∃ u', e = .returned u' ∧ w'.ownsRow base 38 3 u' (lay A s).length (cells (lay A s)) ∧ Kp (fun k => some k = u.ownBlock) w w' := by
  rcases List.eq_nil_or_concat A with rfl | ⟨A', t, rfl⟩
  · exact lay_nil base w u s hown hb
  · rw [List.concat_eq_append] at hA hown ⊢
    rw [lay_snoc]
    have hl : (A' ++ [t]).length = A'.length + 1 := by simp
    rw [hl] at hown hA
    by_cases e : t.h = s.h
    · rw [if_pos e]
      have hl2 : (A' ++ [(⟨t.lo, s.hi, t.h⟩ : Sg)]).length = A'.length + 1 := by simp
      rw [hl2]
      exact lay_sameB base w u s A' t e (by omega) hown hb
    · rw [if_neg e]
      have hl2 : (A' ++ [t] ++ [s]).length = A'.length + 2 := by simp
      rw [hl2]
      exact lay_newB base w u s A' t e (by omega) hown hb
end Go.Proofs.YtbifmcadllilhaaGreat.Rg
namespace Go.Proofs.YtbifmcadllilhaaGreat.Rg
open Go.RowKit Go.Shelf Go.Sort
open Go.Proofs.YtbifmcadllilhaaGreat.It
set_option linter.unusedVariables false

/-- nothing bars the first k -/
def Lok (M : List Sg) (k : Nat) : Prop := ∀ i, i < k → ∀ s, M[i]? = some s → flt (lays [] (M.take i)) s = 0
/-- what is laid ends at the highest key -/
def endF (A : List Sg) : Bool := match A.getLast? with
  | none => false
  | some t => t.hi == 18446744073709551615
/-- a segment's fields as they come in -/
structure SgB (s : Sg) : Prop where
  l0 : 0 ≤ s.lo
  l1 : s.lo < 18446744073709551616
  h0 : 0 ≤ s.hi
  h1 : s.hi < 18446744073709551616
  o0 : 0 ≤ s.h
  o1 : s.h < 256
theorem flt_zero {A : List Sg} {s : Sg} (h : flt A s = 0) : fol A s = true ∧ s.lo ≤ s.hi ∧ s.h < 16 := by
  unfold flt at h
  split at h
  · cases h
  · split at h
    · cases h
    · split at h
      · cases h
      · rename_i h1 h2 h3
        exact ⟨by simpa using h1, by omega, by omega⟩
theorem fol_cov {A : List Sg} {s : Sg} {m : Int} (hc : Cov 0 A m) (h : fol A s = true) : s.lo = m := by
  rcases List.eq_nil_or_concat A with rfl | ⟨A', t, rfl⟩
  · have e : (0 : Int) = m := hc
    simp only [fol, List.getLast?_nil, beq_iff_eq] at h
    omega
  · rw [List.concat_eq_append] at hc h
    have hl := cov_last hc
    simp only [fol, List.getLast?_append, List.getLast?_singleton, Option.some_or, Bool.and_eq_true, decide_eq_true_eq, beq_iff_eq] at h
    omega
theorem lok_cov {M : List Sg} : ∀ k, k ≤ M.length → Lok M k → ∃ m, Cov 0 (M.take k) m ∧ (∀ s ∈ M.take k, s.h < 16)
  | 0, _, _ => ⟨0, by simp [Cov], by simp⟩
  | k + 1, hk, hl => by
    obtain ⟨m, hc, hh⟩ := lok_cov k (by omega) (fun i hi => hl i (by omega))
    obtain ⟨s, hs⟩ : ∃ s, M[k]? = some s := ⟨_, List.getElem?_eq_getElem (by omega)⟩
    obtain ⟨f1, f2, f3⟩ := flt_zero (hl k (by omega) s hs)
    have e := fol_cov (lays_cov (A := []) (a := 0) (m := 0) rfl hc).1 f1
    have et : M.take (k + 1) = M.take k ++ [s] := by rw [List.take_add_one, hs]; rfl
    refine ⟨s.hi + 1, ?_, ?_⟩
    · rw [et]
      exact cov_append hc ⟨e, by omega, rfl⟩
    · rw [et]
      intro x hx
      rcases List.mem_append.1 hx with hx | hx
      · exact hh x hx
      · simp only [List.mem_singleton] at hx
        subst hx
        exact f3
/-- a list that nothing bars, and that ends at the highest key, may be loaded -/
theorem lok_good {M : List Sg} (h : Lok M M.length) (he : endF (lays [] M) = true) (hb : ∀ s ∈ M, SgB s) : Good M := by
  obtain ⟨m, hc, hh⟩ := lok_cov M.length (Nat.le_refl _) h
  rw [List.take_length] at hc hh
  refine ⟨?_, fun s hs => ⟨(hb s hs).o0, hh s hs⟩⟩
  have hc2 := (lays_cov (A := []) (a := 0) (m := 0) rfl hc).1
  rcases List.eq_nil_or_concat (lays [] M) with e | ⟨A', t, e⟩
  · rw [e] at he
    simp [endF] at he
  · rw [List.concat_eq_append] at e
    rw [e] at he hc2
    have hl := cov_last hc2
    simp only [endF, List.getLast?_append, List.getLast?_singleton, Option.some_or, beq_iff_eq] at he
    have em : m = 18446744073709551616 := by omega
    rw [← em]
    exact hc
theorem good_lok {M : List Sg} (h : Good M) : endF (lays [] M) = true := by
  have hc2 := h.tab.cov
  rcases List.eq_nil_or_concat (lays [] M) with e | ⟨A', t, e⟩
  · rw [e] at hc2
    have e2 : (0 : Int) = 18446744073709551616 := hc2
    omega
  · rw [List.concat_eq_append] at e
    rw [e] at hc2 ⊢
    have hl := cov_last hc2
    simp only [endF, List.getLast?_append, List.getLast?_singleton, Option.some_or, beq_iff_eq]
    omega
end Go.Proofs.YtbifmcadllilhaaGreat.Rg
namespace Go.Proofs.YtbifmcadllilhaaGreat.Rg
open Go.RowKit Go.Shelf Go.Sort
open Go.Proofs.YtbifmcadllilhaaGreat.It
set_option linter.unusedVariables false

/-- a list of segments, nil or not -/
def Rz (w : World) (u : Value) (M : List Sg) : Prop := (M = [] ∧ ∃ ad cap, u = .slice ad 0 cap) ∨ Rs w u M
theorem Rz.nu {w w' : World} {u : Value} {M : List Sg} (h : Rz w u M) (k : Kp Nu w w') : Rz w' u M := h.elim .inl (fun h => .inr (h.nu k))
theorem Rz.slice {w : World} {u : Value} {M : List Sg} (h : Rz w u M) : ∃ ad cap, u = .slice ad M.length cap := by
  rcases h with ⟨rfl, ad, cap, rfl⟩ | ⟨r, off, cap, rfl, _⟩
  · exact ⟨ad, cap, rfl⟩
  · exact ⟨_, cap, rfl⟩
/-- what load answers: a table, a place, an error -/
def Lrs (w w' : World) (lim : Int) (M : List Sg) (p : Value) (i c : Int) : Prop :=
  (p = .pointer none ∧ ∃ k s, Lok M k ∧ M[k]? = some s ∧ flt (lays [] (M.take k)) s = c ∧ c ≠ 0 ∧ i = (k : Int)) ∨
  (p = .pointer none ∧ Lok M M.length ∧ i = (M.length : Int) ∧ ((c = 62 ∧ endF (lays [] M) = false) ∨ (c = 61 ∧ endF (lays [] M) = true ∧ lim < ((lays [] M).length : Int)))) ∨
  (c = 0 ∧ i = 0 ∧ Lok M M.length ∧ endF (lays [] M) = true ∧ ((lays [] M).length : Int) ≤ lim ∧ ∃ b v, p = .pointer (some ⟨b, 0, none⟩) ∧ Tb w.heap.size w' b lim v (lays [] M))

set_option maxRecDepth 100000 in
set_option maxHeartbeats 2000000 in
theorem load_any (w : World) (u : Value) (M : List Sg) (hrd : Rz w u M) (hb : ∀ s ∈ M, SgB s) (hM : M.length ≤ 5864062014634) (lim : Int) (l1 : 1 ≤ lim) (l2 : lim ≤ 8192) :
    Calls Tryz.prog 52 #[u, .int .i64 lim] w fun e w' => ∃ p i c, e = .returned (.tuple #[p, .int .i64 i, .int .i64 c]) ∧ Lrs w w' lim M p i c ∧ Kp Nu w w' := by
  have LI := limit_ok lim w l1 l2
  obtain ⟨ad, cap, hu⟩ := hrd.slice
  obtain ⟨N, hN⟩ : ∃ N, M.length = N := ⟨_, rfl⟩
  have HR := hide hrd
  have HB := hide hb
  have HN := hide hN
  rw [hN] at hu hM
  subst hu
  clear hrd hb hN
  go_enter Tryz.func52, Tryz.ntmps52
  go_wp2_with fail
  refine LI.mono ?_; rintro e w1 ⟨rfl, hw1⟩
  obtain rfl := hw1.symm
  clear LI hw1
  go_wp2_with fail
  go_loopw [7, 16] (fun l i wr => ∃ (k n : Nat) (adl : Option Addr) (cpl : Nat), k ≤ N ∧ i = .int .i64 (k : Int) ∧ l = .slice adl n cpl ∧ n ≤ 5864062014634 ∧ Hid (Lok M k ∧ (lays [] (M.take k)).length = n ∧ wr.ownsRow w.heap.size 38 3 (.slice adl n cpl) n (cells (lays [] (M.take k))) ∧ Kp Nu w wr)) (fun _ i _ => N - (intOf i).toNat)
  case atStart => exact ⟨0, 0, none, 0, by omega, rfl, rfl, by omega, ⟨fun i hi => by omega, rfl, ⟨rfl, .inl ⟨rfl, rfl⟩⟩, Kp.refl _ _⟩⟩
  case round =>
    obtain ⟨k, n, adl, cpl, hk, rfl, rfl, hn8, hI⟩ := hrel
    by_cases hlt : k < N
    · have hkM : k < M.length := by rw [HN.out]; exact hlt
      obtain ⟨s, hs⟩ : ∃ s, M[k]? = some s := ⟨_, List.getElem?_eq_getElem hkM⟩
      obtain ⟨hok, hl, hown, hkp⟩ := hI.out
      rcases HR.out.nu hkp with ⟨e, _⟩ | ⟨r', off', cap', hu', hc'⟩
      · rw [e] at hkM; simp at hkM
      simp only [Value.slice.injEq] at hu'
      obtain ⟨rfl, hx1, hx2⟩ := hu'
      clear hx1 hx2
      obtain ⟨x0, x1, x2⟩ := hc' k s hs
      have hltI : (k : Int) < (N : Int) := by omega
      have hk0 : (0 : Int) ≤ (k : Int) := by omega
      have hkN : (k : Int) ≤ 5864062014634 := by omega
      have hsb := HB.out s (List.mem_of_getElem? hs)
      have KA := Kp.alloc wr (.cells #[.int .u64 s.lo, .int .u64 s.hi, .int .u8 s.h] 38) Nu
      have hsz := hkp.size
      have hlA : (lays [] (M.take k)).length ≤ 5864062014634 := by rw [hl]; exact hn8
      have FA : Calls Tryz.prog 69 #[.agg #[.int .u64 s.lo, .int .u64 s.hi, .int .u8 s.h], .slice adl n cpl] (wr.alloc (.cells #[.int .u64 s.lo, .int .u64 s.hi, .int .u8 s.h] 38)) fun e w' => e = .returned (.int .i64 (flt (lays [] (M.take k)) s)) ∧ Kp Nu (wr.alloc (.cells #[.int .u64 s.lo, .int .u64 s.hi, .int .u8 s.h] 38)) w' := by
        refine fault_any _ w.heap.size _ (lays [] (M.take k)) s ?_ (by omega) hsb.l0 hsb.l1
        rw [hl]
        exact hown.alloc _
      by_cases hf : flt (lays [] (M.take k)) s = 0
      · rw [hf] at FA
        have LA : ∀ W, Kp Nu wr W → Calls Tryz.prog 70 #[.slice adl n cpl, .agg #[.int .u64 s.lo, .int .u64 s.hi, .int .u8 s.h]] W fun e w' => ∃ u', e = .returned u' ∧ w'.ownsRow w.heap.size 38 3 u' (lays [] (M.take (k + 1))).length (cells (lays [] (M.take (k + 1)))) ∧ Kp (fun g => w.heap.size ≤ g) W w' := fun W kW => by
          have e : lays [] (M.take (k + 1)) = lay (lays [] (M.take k)) s := by
            rw [List.take_add_one, hs, Option.toList_some, lays_snoc]
          have hown2 : W.ownsRow w.heap.size 38 3 (.slice adl n cpl) (lays [] (M.take k)).length (cells (lays [] (M.take k))) := by
            rw [hl]; exact own_keep hown (fun g hg => kW.block g (own_lt hown hg) (fun h => h))
          rw [e]
          refine (lay_anyB w.heap.size W _ _ s (by omega) hown2 (Nat.le_trans hsz kW.size)).mono ?_
          rintro e w' ⟨u', rfl, h1, h2⟩
          exact ⟨u', rfl, h1, h2.mono (fun i _ hi => (own_type hown2 hi.symm).1)⟩
        have HK := hide hkp
        have hle2 := lays_le (M.take (k + 1)) []
        have hn9 : (lays [] (M.take (k + 1))).length ≤ 5864062014634 := by simp at hle2; omega
        have HN9 : Hid ((lays [] (M.take (k + 1))).length ≤ 5864062014634 ∧ Lok M (k + 1)) := ⟨hn9, fun i hi x hx => by
          by_cases e : i = k
          · subst e
            rw [hs] at hx
            cases hx
            exact hf
          · exact hok i (by omega) x hx⟩
        clear hI hl hown hc' hs hle2 hn9 hkM hkp hok hf hsb hlA
        go_wp2_with fail
        refine FA.mono ?_; rintro e w2 ⟨rfl, hk2⟩
        have hb2 := cell3 (new_at wr _ hk2)
        obtain ⟨a0, a1, a2⟩ := hb2
        have LA1 := LA _ (KA.andNu hk2)
        clear FA LA
        go_wp2_with fail
        refine LA1.mono ?_; rintro e w3 ⟨u', rfl, ho3, hk3⟩
        obtain ⟨ad3, cp3, hu3⟩ := own_slice ho3
        obtain ⟨n3, hn3⟩ : ∃ n3, (lays [] (M.take (k + 1))).length = n3 := ⟨_, rfl⟩
        rw [hn3] at hu3 ho3
        have HO : Hid (Lok M (k + 1) ∧ (lays [] (M.take (k + 1))).length = n3 ∧ w3.ownsRow w.heap.size 38 3 u' n3 (cells (lays [] (M.take (k + 1)))) ∧ Kp Nu w w3) := by
          refine ⟨HN9.out.2, hn3, ho3, ?_⟩
          exact Kp.of_below (((HK.out.andNu (KA.andNu hk2)).toBelow).trans (hk3.below _ (by have := KA.size; have := hk2.size; omega) (fun j hj => hj)))
        have hn10 : n3 ≤ 5864062014634 := by rw [← hn3]; exact HN9.out.1
        subst hu3
        clear LA1 ho3 hn3 hk3 hk2 KA
        go_wp2
        go_roundw
        case rel => exact ⟨k + 1, n3, ad3, cp3, by omega, by go_num, rfl, hn10, HO⟩
        case measure => simp [intOf]; omega
      · obtain ⟨c, hc⟩ : ∃ c, flt (lays [] (M.take k)) s = c := ⟨_, rfl⟩
        rw [hc] at FA hf
        have hcb : (c != 0) = true := by simpa using hf
        have HZ : Hid (Lok M k ∧ M[k]? = some s ∧ flt (lays [] (M.take k)) s = c ∧ c ≠ 0 ∧ Kp Nu w wr) := ⟨hok, hs, hc, hf, hkp⟩
        clear hI hl hown hc' hs hkM hkp hok hsb hlA hc
        go_wp2_with fail
        refine FA.mono ?_; rintro e w2 ⟨rfl, hk2⟩
        clear FA
        go_wp2
        go_ret3
        exact ⟨_, _, _, rfl, .inl ⟨rfl, k, s, HZ.out.1, HZ.out.2.1, HZ.out.2.2.1, HZ.out.2.2.2.1, rfl⟩, HZ.out.2.2.2.2.andNu (KA.andNu hk2)⟩
    · have hge : ¬ (k : Int) < (N : Int) := by omega
      obtain rfl : k = N := by omega
      obtain ⟨hok, hl, hown, hkp⟩ := hI.out
      rw [List.take_of_length_le (by rw [HN.out]; omega)] at hl hown
      have hokM : Lok M M.length := by rw [HN.out]; exact hok
      have hkM : (k : Int) ≤ 5864062014634 := by omega
      rcases List.eq_nil_or_concat (lays [] M) with e | ⟨A', t, e⟩
      · have hn0 : n = 0 := by rw [← hl, e]; rfl
        subst hn0
        have HZ : Hid (Lrs w wr lim M (.pointer none) (k : Int) 62 ∧ Kp Nu w wr) := ⟨.inr (.inl ⟨rfl, hokM, by rw [HN.out], .inl ⟨rfl, by rw [e]; rfl⟩⟩), hkp⟩
        clear hI hl hown hok hokM hkp e
        go_wp2
        go_ret3
        exact ⟨_, _, _, rfl, HZ.out.1, HZ.out.2⟩
      · rw [List.concat_eq_append] at e
        have hlt2 : (A' ++ [t])[A'.length]? = some t := by simp
        have hown2 : wr.ownsRow w.heap.size 38 3 (.slice adl n cpl) (A' ++ [t]).length (cells (A' ++ [t])) := by
          rw [← e, hl]; exact hown
        obtain ⟨r3, cap3, hu3, x0, x1, x2⟩ := row_at hown2 hlt2
        obtain ⟨q, hq⟩ : ∃ q, A'.length = q := ⟨_, rfl⟩
        rw [hq] at x1
        have hl3 : n = q + 1 := by rw [← hl, e, ← hq]; simp
        simp only [Value.slice.injEq] at hu3
        obtain ⟨rfl, hy1, hy2⟩ := hu3
        clear hy1 hy2
        have hend : endF (lays [] M) = (t.hi == 18446744073709551615) := by rw [e]; simp [endF]
        have hq0 : (((q : Int) + 1) == 0) = false := by simp; omega
        have hq8 : (q : Int) + 1 ≤ 5864062014634 := by omega
        have hq9 : (0 : Int) ≤ (q : Int) := by omega
        by_cases ht : t.hi = 18446744073709551615
        · rw [ht] at x1
          have hendt : endF (lays [] M) = true := by rw [hend, ht]; rfl
          by_cases hfl : (q : Int) + 1 > lim
          · have HZ : Hid (Lrs w wr lim M (.pointer none) (k : Int) 61 ∧ Kp Nu w wr) := ⟨.inr (.inl ⟨rfl, hokM, by rw [HN.out], .inr ⟨rfl, hendt, by rw [hl, hl3]; omega⟩⟩), hkp⟩
            have hfd : decide (lim < (q : Int) + 1) = true := decide_eq_true (by omega)
            subst hl3
            clear hI hl hown hown2 x0 x2 hlt2 e hq hok hokM hkp hend hendt ht
            go_wp2
            go_ret3
            exact ⟨_, _, _, rfl, HZ.out.1, HZ.out.2⟩
          · have hG : Good M := lok_good hokM hendt HB.out
            have HT : Hid (Tb w.heap.size (wr.alloc (.cells #[.int .i64 lim, .slice (some ⟨r3, 0, none⟩) n cpl] 133)) wr.heap.size lim (.slice (some ⟨r3, 0, none⟩) n cpl) (lays [] M) ∧ Kp Nu w (wr.alloc (.cells #[.int .i64 lim, .slice (some ⟨r3, 0, none⟩) n cpl] 133)) ∧ Lok M M.length ∧ endF (lays [] M) = true ∧ ((lays [] M).length : Int) ≤ lim) := by
              refine ⟨⟨heap_alloc_new wr _, hkp.size, ?_, hG.tab, by rw [hl, hl3]; omega, l2⟩, hkp.andAlloc _, hokM, hendt, by rw [hl, hl3]; omega⟩
              rw [hl]
              exact hown.alloc _
            have hfd : decide (lim < (q : Int) + 1) = false := decide_eq_false (by omega)
            subst hl3
            clear hI hl hown hown2 x0 x2 hlt2 e hq hok hokM hkp hend hendt ht hG
            go_wp2
            go_ret3
            exact ⟨_, _, _, rfl, .inr (.inr ⟨rfl, rfl, HT.out.2.2.1, HT.out.2.2.2.1, HT.out.2.2.2.2, _, _, rfl, HT.out.1⟩), HT.out.2.1⟩
        · have hendt : endF (lays [] M) = false := by rw [hend]; simpa using ht
          have HZ : Hid (Lrs w wr lim M (.pointer none) (k : Int) 62 ∧ Kp Nu w wr) := ⟨.inr (.inl ⟨rfl, hokM, by rw [HN.out], .inl ⟨rfl, hendt⟩⟩), hkp⟩
          have htb : (t.hi != 18446744073709551615) = true := by simpa using ht
          subst hl3
          clear hI hl hown hown2 x0 x2 hlt2 e hq hok hokM hkp hend hendt
          generalize t.hi = th at *
          go_wp2
          go_ret3
          exact ⟨_, _, _, rfl, HZ.out.1, HZ.out.2⟩
end Go.Proofs.YtbifmcadllilhaaGreat.Rg
