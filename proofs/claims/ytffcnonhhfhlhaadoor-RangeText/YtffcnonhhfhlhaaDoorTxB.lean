import Derived.Test.YtffcnonhhfhlhaaDoorLdA
import Derived.Test.YtffcnonhhfhlhaaDoorSr
import Derived.Lib.AppendIntMem
import Derived.Deep.RegionHeld
namespace Go.Proofs.YtffcnonhhfhlhaaDoor.Rg
open Go.RowKit Go.Shelf Go.Sort
open Go.Proofs.YtffcnonhhfhlhaaDoor.It
set_option linter.unusedVariables false

set_option maxRecDepth 100000 in
set_option maxHeartbeats 1000000 in
theorem lay_newB (base : Nat) (w : World) (u : Value) (s : Sg) (A : List Sg) (t : Sg) (hne : t.h ≠ s.h) (hA : A.length + 2 ≤ 5864062014700) (hown : w.ownsRow base 26 3 u (A.length + 1) (cells (A ++ [t]))) (hb : base ≤ w.heap.size) :
    Calls Tryd.prog 47 #[u, enc s] w fun e w' => ∃ u', e = .returned u' ∧ w'.ownsRow base 26 3 u' (A.length + 2) (cells (A ++ [t] ++ [s])) ∧ Kp (fun k => some k = u.ownBlock) w w' := by
  have mixed : Tryd.prog.follows .mixedOrders = true := by kernel_rfl
  obtain ⟨i0, hi, hz0, hz1, hz2⟩ := info_parts info40
  have ht : (A ++ [t])[A.length]? = some t := by simp
  have hl : (A ++ [t]).length = A.length + 1 := by simp
  have hown2 : w.ownsRow base 26 3 u (A ++ [t]).length (cells (A ++ [t])) := by rw [hl]; exact hown
  obtain ⟨r, cap, hu, x0, x1, x2⟩ := row_at hown2 ht
  rw [hl] at hu
  have HR : Hid ((((w.alloc (.cells #[.int .u64 s.lo, .int .u64 s.hi, .int .u8 s.h] 26)).alloc (.cells #[.int .u64 s.lo, .int .u64 s.hi, .int .u8 s.h] 26)).drew).ownsRow base 26 3 u (A.length + 1) (cells (A ++ [t]))) := (hown.alloc _).alloc _
  have HU : Hid (∀ g, u.ownBlock = some g → g < w.heap.size) := fun g hg => own_lt hown hg
  have hrlt : r < w.heap.size := HU.out r (by rw [hu]; rfl)
  have y2 : (w.alloc (.cells #[.int .u64 s.lo, .int .u64 s.hi, .int .u8 s.h] 26)).drew.cell? ⟨r, A.length * 3 + 2, none⟩ = some (.int .u8 t.h) := (World.cell?_of_block (Below.heap_alloc w _ r hrlt)).trans x2
  have heq : (t.h == s.h) = false := by simpa using hne
  generalize A.length = N at *
  have HT : Hid (∀ j z, [.int .u64 s.lo, .int .u64 s.hi, .int .u8 s.h][j]? = some z → ((w.alloc (.cells #[.int .u64 s.lo, .int .u64 s.hi, .int .u8 s.h] 26)).alloc (.cells #[.int .u64 s.lo, .int .u64 s.hi, .int .u8 s.h] 26)).drew.cell? ((⟨w.heap.size + 1, 0, none⟩ : Addr).add j) = some z) := by
    have := cell_three_new (w.alloc (.cells #[.int .u64 s.lo, .int .u64 s.hi, .int .u8 s.h] 26)) (.int .u64 s.lo) (.int .u64 s.hi) (.int .u8 s.h) 26
    rw [World.size_alloc] at this
    exact this
  have K2 : Kp (fun k => some k = u.ownBlock) w ((w.alloc (.cells #[.int .u64 s.lo, .int .u64 s.hi, .int .u8 s.h] 26)).alloc (.cells #[.int .u64 s.lo, .int .u64 s.hi, .int .u8 s.h] 26)).drew := ((Kp.alloc w _ _).andAlloc _).drew
  have HK := hide K2
  subst hu
  clear hown K2
  clear hown2 x0 x1 x2 ht hl hne
  unfold enc
  go_enter Tryd.func47, Tryd.ntmps47
  go_wp2_with fail
  go_region
  go_wp2_with (first
    | (at_builtin; refine wpList_append_own _ rfl _ _ 22 rfl base 26 i0 (.agg #[.int .u64 0, .int .u64 0, .int .u8 0]) 3 24 Tryd.underlying22 hi hz0 hz1 hz2 rfl (by decide) _ _ _ rfl HR.out ⟨w.heap.size + 1, 0, none⟩ 1 1 [.int .u64 s.lo, .int .u64 s.hi, .int .u8 s.h] rfl rfl HT.out (by simp [Value.oneCell']) (by unfold maxLen; omega) (by omega) (by simp; omega) ?_; intro v' w3 hown' hg3 hnil3; obtain ⟨ad3, cp3, ev3⟩ := own_slice hown'; have HO := hide hown'; have HG3 := hide hg3; subst ev3; clear hown' hg3 hnil3)
    | go_in)
  go_ret
  refine ⟨_, rfl, ?_, HK.out.trans (Kp.of_grown HG3.out) (fun i hi e => e)⟩
  have h1 := HO.out
  rw [cells_append]
  exact h1

set_option maxRecDepth 100000 in
set_option maxHeartbeats 1000000 in
theorem lay_sameB (base : Nat) (w : World) (u : Value) (s : Sg) (A : List Sg) (t : Sg) (hne : t.h = s.h) (hA : A.length + 2 ≤ 5864062014700) (hown : w.ownsRow base 26 3 u (A.length + 1) (cells (A ++ [t]))) (hb : base ≤ w.heap.size) :
    Calls Tryd.prog 47 #[u, enc s] w fun e w' => ∃ u', e = .returned u' ∧ w'.ownsRow base 26 3 u' (A.length + 1) (cells (A ++ [⟨t.lo, s.hi, t.h⟩])) ∧ Kp (fun k => some k = u.ownBlock) w w' := by
  have mixed : Tryd.prog.follows .mixedOrders = true := by kernel_rfl
  have ht : (A ++ [t])[A.length]? = some t := by simp
  have hl : (A ++ [t]).length = A.length + 1 := by simp
  have hown2 : w.ownsRow base 26 3 u (A ++ [t]).length (cells (A ++ [t])) := by rw [hl]; exact hown
  obtain ⟨r, cap, hu, x0, x1, x2⟩ := row_at hown2 ht
  rw [hl] at hu
  obtain ⟨r', cap', hu', o1, o2⟩ := own_end hown s.hi
  rw [hu] at hu'
  simp only [Value.slice.injEq, Option.some.injEq, Addr.mk.injEq] at hu'
  obtain ⟨⟨rfl, _⟩, _⟩ := hu'
  have hrlt : r < w.heap.size := own_lt hown (by rw [hu]; rfl)
  have y2 : (w.alloc (.cells #[.int .u64 s.lo, .int .u64 s.hi, .int .u8 s.h] 26)).drew.cell? ⟨r, A.length * 3 + 2, none⟩ = some (.int .u8 t.h) := (World.cell?_of_block (Below.heap_alloc w _ r hrlt)).trans x2
  have y1 : (w.alloc (.cells #[.int .u64 s.lo, .int .u64 s.hi, .int .u8 s.h] 26)).drew.cell? ⟨r, A.length * 3 + 1, none⟩ = some (.int .u64 t.hi) := (World.cell?_of_block (Below.heap_alloc w _ r hrlt)).trans x1
  have heq : (t.h == s.h) = true := by simpa using hne
  have o3 : (w.alloc (.cells #[.int .u64 s.lo, .int .u64 s.hi, .int .u8 s.h] 26)).drew.frozen? ⟨r, A.length * 3 + 1, none⟩ = false := (World.frozen?_of_block (Below.heap_alloc w _ r hrlt)).trans o2
  have HO : Hid ((((w.setCell ⟨r, A.length * 3 + 1, none⟩ (.int .u64 s.hi)).alloc (.cells #[.int .u64 s.lo, .int .u64 s.hi, .int .u8 s.h] 26)).drew).ownsRow base 26 3 u (A.length + 1) (cells (A ++ [⟨t.lo, s.hi, t.h⟩]))) := o1.alloc _
  have hwn : w.heap.size ≠ r := by omega
  have K2 : Kp (fun k => some k = u.ownBlock) w ((w.setCell ⟨r, A.length * 3 + 1, none⟩ (.int .u64 s.hi)).alloc (.cells #[.int .u64 s.lo, .int .u64 s.hi, .int .u8 s.h] 26)).drew := (((Kp.refl _ w).andSet _ _ (.inr (by rw [hu]; rfl))).andAlloc _).drew
  have HK := hide K2
  generalize A.length = N at *
  subst hu
  clear hown hown2 x0 x1 x2 ht hl hne o1 K2
  unfold enc
  go_enter Tryd.func47, Tryd.ntmps47
  go_wp2_with fail
  go_region
  go_wp2
  go_ret
  exact ⟨_, rfl, HO.out, HK.out⟩

/-- what lay answers -/
theorem lay_anyB (base : Nat) (w : World) (u : Value) (A : List Sg) (s : Sg) (hA : A.length + 1 ≤ 5864062014700) (hown : w.ownsRow base 26 3 u A.length (cells A)) (hb : base ≤ w.heap.size) :
    Calls Tryd.prog 47 #[u, enc s] w fun e w' => ∃ u', e = .returned u' ∧ w'.ownsRow base 26 3 u' (lay A s).length (cells (lay A s)) ∧ Kp (fun k => some k = u.ownBlock) w w' := by
  rcases List.eq_nil_or_concat A with rfl | ⟨A', t, rfl⟩
  · exact lay_nil base w u s hown hb
  · rw [List.concat_eq_append] at hA hown ⊢
    rw [lay_snoc]
    have hl : (A' ++ [t]).length = A'.length + 1 := by simp
    rw [hl] at hown hA
    by_cases e : t.h = s.h
    · rw [if_pos e]
      have hl2 : (A' ++ [(⟨t.lo, s.hi, t.h⟩ : Sg)]).length = A'.length + 1 := by simp
      rw [hl2]
      exact lay_sameB base w u s A' t e (by omega) hown hb
    · rw [if_neg e]
      have hl2 : (A' ++ [t] ++ [s]).length = A'.length + 2 := by simp
      rw [hl2]
      exact lay_newB base w u s A' t e (by omega) hown hb
end Go.Proofs.YtffcnonhhfhlhaaDoor.Rg
namespace Go.Proofs.YtffcnonhhfhlhaaDoor.Rg
open Go.RowKit Go.Shelf Go.Sort
open Go.Proofs.YtffcnonhhfhlhaaDoor.It
set_option linter.unusedVariables false

/-- nothing bars the first k -/
def Lok (M : List Sg) (k : Nat) : Prop := ∀ i, i < k → ∀ s, M[i]? = some s → flt (lays [] (M.take i)) s = 0
/-- what is laid ends at the highest key -/
def endF (A : List Sg) : Bool := match A.getLast? with
  | none => false
  | some t => t.hi == 18446744073709551615
/-- a segment's fields as they come in -/
structure SgB (s : Sg) : Prop where
  l0 : 0 ≤ s.lo
  l1 : s.lo < 18446744073709551616
  h0 : 0 ≤ s.hi
  h1 : s.hi < 18446744073709551616
  o0 : 0 ≤ s.h
  o1 : s.h < 256
theorem flt_zero {A : List Sg} {s : Sg} (h : flt A s = 0) : fol A s = true ∧ s.lo ≤ s.hi ∧ s.h < 16 := by
  unfold flt at h
  split at h
  · cases h
  · split at h
    · cases h
    · split at h
      · cases h
      · rename_i h1 h2 h3
        exact ⟨by simpa using h1, by omega, by omega⟩
theorem fol_cov {A : List Sg} {s : Sg} {m : Int} (hc : Cov 0 A m) (h : fol A s = true) : s.lo = m := by
  rcases List.eq_nil_or_concat A with rfl | ⟨A', t, rfl⟩
  · have e : (0 : Int) = m := hc
    simp only [fol, List.getLast?_nil, beq_iff_eq] at h
    omega
  · rw [List.concat_eq_append] at hc h
    have hl := cov_last hc
    simp only [fol, List.getLast?_append, List.getLast?_singleton, Option.some_or, Bool.and_eq_true, decide_eq_true_eq, beq_iff_eq] at h
    omega
theorem lok_cov {M : List Sg} : ∀ k, k ≤ M.length → Lok M k → ∃ m, Cov 0 (M.take k) m ∧ (∀ s ∈ M.take k, s.h < 16)
  | 0, _, _ => ⟨0, by simp [Cov], by simp⟩
  | k + 1, hk, hl => by
    obtain ⟨m, hc, hh⟩ := lok_cov k (by omega) (fun i hi => hl i (by omega))
    obtain ⟨s, hs⟩ : ∃ s, M[k]? = some s := ⟨_, List.getElem?_eq_getElem (by omega)⟩
    obtain ⟨f1, f2, f3⟩ := flt_zero (hl k (by omega) s hs)
    have e := fol_cov (lays_cov (A := []) (a := 0) (m := 0) rfl hc).1 f1
    have et : M.take (k + 1) = M.take k ++ [s] := by rw [List.take_add_one, hs]; rfl
    refine ⟨s.hi + 1, ?_, ?_⟩
    · rw [et]
      exact cov_append hc ⟨e, by omega, rfl⟩
    · rw [et]
      intro x hx
      rcases List.mem_append.1 hx with hx | hx
      · exact hh x hx
      · simp only [List.mem_singleton] at hx
        subst hx
        exact f3
/-- a list that nothing bars, and that ends at the highest key, may be loaded -/
theorem lok_good {M : List Sg} (h : Lok M M.length) (he : endF (lays [] M) = true) (hb : ∀ s ∈ M, SgB s) : Good M := by
  obtain ⟨m, hc, hh⟩ := lok_cov M.length (Nat.le_refl _) h
  rw [List.take_length] at hc hh
  refine ⟨?_, fun s hs => ⟨(hb s hs).o0, hh s hs⟩⟩
  have hc2 := (lays_cov (A := []) (a := 0) (m := 0) rfl hc).1
  rcases List.eq_nil_or_concat (lays [] M) with e | ⟨A', t, e⟩
  · rw [e] at he
    simp [endF] at he
  · rw [List.concat_eq_append] at e
    rw [e] at he hc2
    have hl := cov_last hc2
    simp only [endF, List.getLast?_append, List.getLast?_singleton, Option.some_or, beq_iff_eq] at he
    have em : m = 18446744073709551616 := by omega
    rw [← em]
    exact hc
theorem good_lok {M : List Sg} (h : Good M) : endF (lays [] M) = true := by
  have hc2 := h.tab.cov
  rcases List.eq_nil_or_concat (lays [] M) with e | ⟨A', t, e⟩
  · rw [e] at hc2
    have e2 : (0 : Int) = 18446744073709551616 := hc2
    omega
  · rw [List.concat_eq_append] at e
    rw [e] at hc2 ⊢
    have hl := cov_last hc2
    simp only [endF, List.getLast?_append, List.getLast?_singleton, Option.some_or, beq_iff_eq]
    omega
end Go.Proofs.YtffcnonhhfhlhaaDoor.Rg
namespace Go.Proofs.YtffcnonhhfhlhaaDoor.Rg
open Go.RowKit Go.Shelf Go.Sort
open Go.Proofs.YtffcnonhhfhlhaaDoor.It
set_option linter.unusedVariables false

/-- a segment's word -/
def wrd (s : Sg) : List UInt8 := Lib.decDigits s.lo.toNat ++ [45] ++ Lib.decDigits s.hi.toNat ++ [58] ++ Lib.decDigits s.h.toNat
/-- a table's text -/
def txt : List Sg → List UInt8
  | [] => []
  | s :: r => wrd s ++ r.flatMap (fun t => 32 :: wrd t)
theorem txt_one (s : Sg) : txt [s] = wrd s := by simp [txt]
theorem txt_snoc (A : List Sg) (s : Sg) (h : A ≠ []) : txt (A ++ [s]) = txt A ++ 32 :: wrd s := by
  cases A with
  | nil => exact absurd rfl h
  | cons a r => simp [txt]
theorem wrd_len {s : Sg} (h : SgB s) : (wrd s).length ≤ 62 ∧ 0 < (wrd s).length := by
  have := dec_len s.lo.toNat (by have := h.l0; have := h.l1; omega)
  have := dec_len s.hi.toNat (by have := h.h0; have := h.h1; omega)
  have := dec_len s.h.toNat (by have := h.o0; have := h.o1; omega)
  simp [wrd]; omega
theorem flat_len : ∀ (r : List Sg), (∀ s ∈ r, SgB s) → (r.flatMap (fun t => 32 :: wrd t)).length ≤ 63 * r.length
  | [], _ => by simp
  | s :: r, h => by
    have h1 := flat_len r (fun t ht => h t (List.mem_cons_of_mem _ ht))
    have h2 := (wrd_len (h s (List.mem_cons_self ..))).1
    simp at h1 ⊢; omega
theorem txt_len : ∀ (L : List Sg), (∀ s ∈ L, SgB s) → (txt L).length ≤ 63 * L.length
  | [], _ => by simp [txt]
  | s :: r, h => by
    have h1 := flat_len r (fun t ht => h t (List.mem_cons_of_mem _ ht))
    have h2 := (wrd_len (h s (List.mem_cons_self ..))).1
    simp [txt] at h1 ⊢; omega
theorem txt_pos {L : List Sg} (h : ∀ s ∈ L, SgB s) (hne : L ≠ []) : 0 < (txt L).length := by
  cases L with
  | nil => exact absurd rfl hne
  | cons s r =>
    have h2 := (wrd_len (h s (List.mem_cons_self ..))).2
    simp [txt]; omega

theorem info5 : (Tryd.prog.info? 5).map (fun i => (i.zero, i.size, i.bytes)) = some (some (.int .u8 0), 1, 1) := by kernel_rfl
theorem new1b (W : World) (z : Int) (j : Nat) (u : Value) (h : ([.int .u8 z] : List Value)[j]? = some u) : (W.alloc (.cells #[.int .u8 z] 5)).cell? ((⟨W.heap.size, 0, none⟩ : Addr).add j) = some u := by
  have e : (⟨W.heap.size, 0, none⟩ : Addr).add j = ⟨W.heap.size, j, none⟩ := by simp [Addr.add]; exact fun h => h.symm
  rw [e, World.cell?_alloc_new]
  simpa using h
theorem conv_row {w : World} {base : Nat} {v : Value} {acc : List UInt8} (h : w.ownsRow base 5 1 v acc.length (Lib.byteCells acc)) : (convert 100 9 v).run Tryd.prog w = .ok (.string ⟨acc.toArray⟩) w := by
  rcases h.2 with ⟨rfl, h0⟩ | ⟨g, cap, cur, rfl, hb, hg, hr⟩
  · obtain rfl := List.eq_nil_of_length_eq_zero h0
    exact run_convert_bytes_nil w 100 5 Tryd.underlying100 Tryd.underlying5 0 0 9 Tryd.underlying9
  · refine run_convert_bytes_back w 100 9 5 ⟨g, 0, none⟩ cap acc Tryd.underlying100 Tryd.underlying5 Tryd.underlying9 (fun j hj => ?_)
    have hc : ∀ j u, (Lib.byteCells acc)[j]? = some u → w.cell? ((⟨g, 0, none⟩ : Addr).add j) = some u := h.cells rfl
    exact hc j _ (by simp [Lib.byteCells, List.getElem?_eq_getElem hj])
theorem own_grown {w1 wr w3 : World} {v : Value} {n : Nat} {xs : List Value} (hk : Kp Nu w1 wr) (ho : wr.ownsRow w1.heap.size 5 1 v n xs) (hg : wr.grownBy w3 v.ownBlock) : Kp Nu w1 w3 :=
  hk.trans (Kp.of_grown hg) (fun i hi e => by have := (ho.lt i e.symm).1; omega)
end Go.Proofs.YtffcnonhhfhlhaaDoor.Rg
