import Derived.Test.YtffcnonhhfhlhaaDoorLdA
import Derived.Test.YtffcnonhhfhlhaaDoorRgG0
namespace Go.Proofs.YtffcnonhhfhlhaaDoor.Rg
open Go.RowKit Go.Shelf Go.Sort
open Go.Proofs.YtffcnonhhfhlhaaDoor.It
set_option linter.unusedVariables false

set_option maxRecDepth 100000 in
set_option maxHeartbeats 1000000 in
theorem lay_newB (base : Nat) (w : World) (u : Value) (s : Sg) (A : List Sg) (t : Sg) (hne : t.h ≠ s.h) (hA : A.length + 2 ≤ 5864062014700) (hown : w.ownsRow base 26 3 u (A.length + 1) (cells (A ++ [t]))) (hb : base ≤ w.heap.size) :
    Calls Tryd.prog 47 #[u, enc s] w fun e w' => ∃ u', e = .returned u' ∧ w'.ownsRow base 26 3 u' (A.length + 2) (cells (A ++ [t] ++ [s])) ∧ Kp (fun k => some k = u.ownBlock) w w' := by
  have mixed : Tryd.prog.follows .mixedOrders = true := by kernel_rfl
  obtain ⟨i0, hi, hz0, hz1, hz2⟩ := info_parts info40
  have ht : (A ++ [t])[A.length]? = some t := by simp
  have hl : (A ++ [t]).length = A.length + 1 := by simp
  have hown2 : w.ownsRow base 26 3 u (A ++ [t]).length (cells (A ++ [t])) := by rw [hl]; exact hown
  obtain ⟨r, cap, hu, x0, x1, x2⟩ := row_at hown2 ht
  rw [hl] at hu
  have HR : Hid ((((w.alloc (.cells #[.int .u64 s.lo, .int .u64 s.hi, .int .u8 s.h] 26)).alloc (.cells #[.int .u64 s.lo, .int .u64 s.hi, .int .u8 s.h] 26)).drew).ownsRow base 26 3 u (A.length + 1) (cells (A ++ [t]))) := (hown.alloc _).alloc _
  have HU : Hid (∀ g, u.ownBlock = some g → g < w.heap.size) := fun g hg => own_lt hown hg
  have hrlt : r < w.heap.size := HU.out r (by rw [hu]; rfl)
  have y2 : (w.alloc (.cells #[.int .u64 s.lo, .int .u64 s.hi, .int .u8 s.h] 26)).drew.cell? ⟨r, A.length * 3 + 2, none⟩ = some (.int .u8 t.h) := (World.cell?_of_block (Below.heap_alloc w _ r hrlt)).trans x2
  have heq : (t.h == s.h) = false := by simpa using hne
  generalize A.length = N at *
  have HT : Hid (∀ j z, [.int .u64 s.lo, .int .u64 s.hi, .int .u8 s.h][j]? = some z → ((w.alloc (.cells #[.int .u64 s.lo, .int .u64 s.hi, .int .u8 s.h] 26)).alloc (.cells #[.int .u64 s.lo, .int .u64 s.hi, .int .u8 s.h] 26)).drew.cell? ((⟨w.heap.size + 1, 0, none⟩ : Addr).add j) = some z) := by
    have := cell_three_new (w.alloc (.cells #[.int .u64 s.lo, .int .u64 s.hi, .int .u8 s.h] 26)) (.int .u64 s.lo) (.int .u64 s.hi) (.int .u8 s.h) 26
    rw [World.size_alloc] at this
    exact this
  have K2 : Kp (fun k => some k = u.ownBlock) w ((w.alloc (.cells #[.int .u64 s.lo, .int .u64 s.hi, .int .u8 s.h] 26)).alloc (.cells #[.int .u64 s.lo, .int .u64 s.hi, .int .u8 s.h] 26)).drew := ((Kp.alloc w _ _).andAlloc _).drew
  have HK := hide K2
  subst hu
  clear hown K2
  clear hown2 x0 x1 x2 ht hl hne
  unfold enc
  go_enter Tryd.func47, Tryd.ntmps47
  go_wp2_with fail
  go_region
  go_wp2_with (first
    | (at_builtin; refine wpList_append_own _ rfl _ _ 22 rfl base 26 i0 (.agg #[.int .u64 0, .int .u64 0, .int .u8 0]) 3 24 Tryd.underlying22 hi hz0 hz1 hz2 rfl (by decide) _ _ _ rfl HR.out ⟨w.heap.size + 1, 0, none⟩ 1 1 [.int .u64 s.lo, .int .u64 s.hi, .int .u8 s.h] rfl rfl HT.out (by simp [Value.oneCell']) (by unfold maxLen; omega) (by omega) (by simp; omega) ?_; intro v' w3 hown' hg3 hnil3; obtain ⟨ad3, cp3, ev3⟩ := own_slice hown'; have HO := hide hown'; have HG3 := hide hg3; subst ev3; clear hown' hg3 hnil3)
    | go_in)
  go_ret
  refine ⟨_, rfl, ?_, HK.out.trans (Kp.of_grown HG3.out) (fun i hi e => e)⟩
  have h1 := HO.out
  rw [cells_append]
  exact h1

set_option maxRecDepth 100000 in
set_option maxHeartbeats 1000000 in
theorem lay_sameB (base : Nat) (w : World) (u : Value) (s : Sg) (A : List Sg) (t : Sg) (hne : t.h = s.h) (hA : A.length + 2 ≤ 5864062014700) (hown : w.ownsRow base 26 3 u (A.length + 1) (cells (A ++ [t]))) (hb : base ≤ w.heap.size) :
    Calls Tryd.prog 47 #[u, enc s] w fun e w' => ∃ u', e = .returned u' ∧ w'.ownsRow base 26 3 u' (A.length + 1) (cells (A ++ [⟨t.lo, s.hi, t.h⟩])) ∧ Kp (fun k => some k = u.ownBlock) w w' := by
  have mixed : Tryd.prog.follows .mixedOrders = true := by kernel_rfl
  have ht : (A ++ [t])[A.length]? = some t := by simp
  have hl : (A ++ [t]).length = A.length + 1 := by simp
  have hown2 : w.ownsRow base 26 3 u (A ++ [t]).length (cells (A ++ [t])) := by rw [hl]; exact hown
  obtain ⟨r, cap, hu, x0, x1, x2⟩ := row_at hown2 ht
  rw [hl] at hu
  obtain ⟨r', cap', hu', o1, o2⟩ := own_end hown s.hi
  rw [hu] at hu'
  simp only [Value.slice.injEq, Option.some.injEq, Addr.mk.injEq] at hu'
  obtain ⟨⟨rfl, _⟩, _⟩ := hu'
  have hrlt : r < w.heap.size := own_lt hown (by rw [hu]; rfl)
  have y2 : (w.alloc (.cells #[.int .u64 s.lo, .int .u64 s.hi, .int .u8 s.h] 26)).drew.cell? ⟨r, A.length * 3 + 2, none⟩ = some (.int .u8 t.h) := (World.cell?_of_block (Below.heap_alloc w _ r hrlt)).trans x2
  have y1 : (w.alloc (.cells #[.int .u64 s.lo, .int .u64 s.hi, .int .u8 s.h] 26)).drew.cell? ⟨r, A.length * 3 + 1, none⟩ = some (.int .u64 t.hi) := (World.cell?_of_block (Below.heap_alloc w _ r hrlt)).trans x1
  have heq : (t.h == s.h) = true := by simpa using hne
  have o3 : (w.alloc (.cells #[.int .u64 s.lo, .int .u64 s.hi, .int .u8 s.h] 26)).drew.frozen? ⟨r, A.length * 3 + 1, none⟩ = false := (World.frozen?_of_block (Below.heap_alloc w _ r hrlt)).trans o2
  have HO : Hid ((((w.setCell ⟨r, A.length * 3 + 1, none⟩ (.int .u64 s.hi)).alloc (.cells #[.int .u64 s.lo, .int .u64 s.hi, .int .u8 s.h] 26)).drew).ownsRow base 26 3 u (A.length + 1) (cells (A ++ [⟨t.lo, s.hi, t.h⟩]))) := o1.alloc _
  have hwn : w.heap.size ≠ r := by omega
  have K2 : Kp (fun k => some k = u.ownBlock) w ((w.setCell ⟨r, A.length * 3 + 1, none⟩ (.int .u64 s.hi)).alloc (.cells #[.int .u64 s.lo, .int .u64 s.hi, .int .u8 s.h] 26)).drew := (((Kp.refl _ w).andSet _ _ (.inr (by rw [hu]; rfl))).andAlloc _).drew
  have HK := hide K2
  generalize A.length = N at *
  subst hu
  clear hown hown2 x0 x1 x2 ht hl hne o1 K2
  unfold enc
  go_enter Tryd.func47, Tryd.ntmps47
  go_wp2_with fail
  go_region
  go_wp2
  go_ret
  exact ⟨_, rfl, HO.out, HK.out⟩

/-- what lay answers -/
theorem lay_anyB (base : Nat) (w : World) (u : Value) (A : List Sg) (s : Sg) (hA : A.length + 1 ≤ 5864062014700) (hown : w.ownsRow base 26 3 u A.length (cells A)) (hb : base ≤ w.heap.size) :
    Calls Tryd.prog 47 #[u, enc s] w fun e w' => ∃ u', e = .returned u' ∧ w'.ownsRow base 26 3 u' (lay A s).length (cells (lay A s)) ∧ Kp (fun k => some k = u.ownBlock) w w' := by
  rcases List.eq_nil_or_concat A with rfl | ⟨A', t, rfl⟩
  · exact lay_nil base w u s hown hb
  · rw [List.concat_eq_append] at hA hown ⊢
    rw [lay_snoc]
    have hl : (A' ++ [t]).length = A'.length + 1 := by simp
    rw [hl] at hown hA
    by_cases e : t.h = s.h
    · rw [if_pos e]
      have hl2 : (A' ++ [(⟨t.lo, s.hi, t.h⟩ : Sg)]).length = A'.length + 1 := by simp
      rw [hl2]
      exact lay_sameB base w u s A' t e (by omega) hown hb
    · rw [if_neg e]
      have hl2 : (A' ++ [t] ++ [s]).length = A'.length + 2 := by simp
      rw [hl2]
      exact lay_newB base w u s A' t e (by omega) hown hb
end Go.Proofs.YtffcnonhhfhlhaaDoor.Rg
namespace Go.Proofs.YtffcnonhhfhlhaaDoor.Rg
open Go.RowKit Go.Shelf Go.Sort
open Go.Proofs.YtffcnonhhfhlhaaDoor.It
set_option linter.unusedVariables false

/-- nothing bars the first k -/
def Lok (M : List Sg) (k : Nat) : Prop := ∀ i, i < k → ∀ s, M[i]? = some s → flt (lays [] (M.take i)) s = 0
/-- what is laid ends at the highest key -/
def endF (A : List Sg) : Bool := match A.getLast? with
  | none => false
  | some t => t.hi == 18446744073709551615
/-- a segment's fields as they come in -/
structure SgB (s : Sg) : Prop where
  l0 : 0 ≤ s.lo
  l1 : s.lo < 18446744073709551616
  h0 : 0 ≤ s.hi
  h1 : s.hi < 18446744073709551616
  o0 : 0 ≤ s.h
  o1 : s.h < 256
theorem flt_zero {A : List Sg} {s : Sg} (h : flt A s = 0) : fol A s = true ∧ s.lo ≤ s.hi ∧ s.h < 16 := by
  unfold flt at h
  split at h
  · cases h
  · split at h
    · cases h
    · split at h
      · cases h
      · rename_i h1 h2 h3
        exact ⟨by simpa using h1, by omega, by omega⟩
theorem fol_cov {A : List Sg} {s : Sg} {m : Int} (hc : Cov 0 A m) (h : fol A s = true) : s.lo = m := by
  rcases List.eq_nil_or_concat A with rfl | ⟨A', t, rfl⟩
  · have e : (0 : Int) = m := hc
    simp only [fol, List.getLast?_nil, beq_iff_eq] at h
    omega
  · rw [List.concat_eq_append] at hc h
    have hl := cov_last hc
    simp only [fol, List.getLast?_append, List.getLast?_singleton, Option.some_or, Bool.and_eq_true, decide_eq_true_eq, beq_iff_eq] at h
    omega
theorem lok_cov {M : List Sg} : ∀ k, k ≤ M.length → Lok M k → ∃ m, Cov 0 (M.take k) m ∧ (∀ s ∈ M.take k, s.h < 16)
  | 0, _, _ => ⟨0, by simp [Cov], by simp⟩
  | k + 1, hk, hl => by
    obtain ⟨m, hc, hh⟩ := lok_cov k (by omega) (fun i hi => hl i (by omega))
    obtain ⟨s, hs⟩ : ∃ s, M[k]? = some s := ⟨_, List.getElem?_eq_getElem (by omega)⟩
    obtain ⟨f1, f2, f3⟩ := flt_zero (hl k (by omega) s hs)
    have e := fol_cov (lays_cov (A := []) (a := 0) (m := 0) rfl hc).1 f1
    have et : M.take (k + 1) = M.take k ++ [s] := by rw [List.take_add_one, hs]; rfl
    refine ⟨s.hi + 1, ?_, ?_⟩
    · rw [et]
      exact cov_append hc ⟨e, by omega, rfl⟩
    · rw [et]
      intro x hx
      rcases List.mem_append.1 hx with hx | hx
      · exact hh x hx
      · simp only [List.mem_singleton] at hx
        subst hx
        exact f3
/-- a list that nothing bars, and that ends at the highest key, may be loaded -/
theorem lok_good {M : List Sg} (h : Lok M M.length) (he : endF (lays [] M) = true) (hb : ∀ s ∈ M, SgB s) : Good M := by
  obtain ⟨m, hc, hh⟩ := lok_cov M.length (Nat.le_refl _) h
  rw [List.take_length] at hc hh
  refine ⟨?_, fun s hs => ⟨(hb s hs).o0, hh s hs⟩⟩
  have hc2 := (lays_cov (A := []) (a := 0) (m := 0) rfl hc).1
  rcases List.eq_nil_or_concat (lays [] M) with e | ⟨A', t, e⟩
  · rw [e] at he
    simp [endF] at he
  · rw [List.concat_eq_append] at e
    rw [e] at he hc2
    have hl := cov_last hc2
    simp only [endF, List.getLast?_append, List.getLast?_singleton, Option.some_or, beq_iff_eq] at he
    have em : m = 18446744073709551616 := by omega
    rw [← em]
    exact hc
theorem good_lok {M : List Sg} (h : Good M) : endF (lays [] M) = true := by
  have hc2 := h.tab.cov
  rcases List.eq_nil_or_concat (lays [] M) with e | ⟨A', t, e⟩
  · rw [e] at hc2
    have e2 : (0 : Int) = 18446744073709551616 := hc2
    omega
  · rw [List.concat_eq_append] at e
    rw [e] at hc2 ⊢
    have hl := cov_last hc2
    simp only [endF, List.getLast?_append, List.getLast?_singleton, Option.some_or, beq_iff_eq]
    omega
end Go.Proofs.YtffcnonhhfhlhaaDoor.Rg
namespace Go.Proofs.YtffcnonhhfhlhaaDoor.Ws
open Go.RowKit Go.Shelf
set_option linter.unusedVariables false
/-- a word's three parts -/
def pA (l : List UInt8) : List UInt8 := (cutL 45 l).1
def pR (l : List UInt8) : List UInt8 := (cutL 45 l).2.getD []
def pB (l : List UInt8) : List UInt8 := (cutL 58 (pR l)).1
def pC (l : List UInt8) : List UInt8 := (cutL 58 (pR l)).2.getD []
/-- what a word says -/
def segF (l : List UInt8) : Option Rg.Sg := if dB (pA l) = true ∧ dB (pB l) = true ∧ dB (pC l) = true ∧ dN (pC l) < 16 then some ⟨dN (pA l), dN (pB l), dN (pC l)⟩ else none
theorem segF_b {l : List UInt8} {g : Rg.Sg} (h : segF l = some g) : Rg.SgB g := by
  unfold segF at h
  split at h
  · rename_i hc
    cases h
    have h1 := dN_le hc.1
    have h2 := dN_le hc.2.1
    have h3 := hc.2.2.2
    unfold Num.top at h1 h2
    exact ⟨by simp, by simp; omega, by simp, by simp; omega, by simp, by simp; omega⟩
  · cases h
/-- what segmentOf answers -/
def SegR (l : List UInt8) (e : Ending) : Prop := (segF l = none ∧ e = .returned (.tuple #[.agg #[.int .u64 0, .int .u64 0, .int .u8 0], .bool false])) ∨ ∃ g, segF l = some g ∧ e = .returned (.tuple #[.agg #[.int .u64 g.lo, .int .u64 g.hi, .int .u8 g.h], .bool true])
theorem kq_nu {w w1 w2 : World} (k : Rg.Kp Rg.Nu w w1) (h : ∃ q, w2 = w1.drewN q) : Rg.Kp Rg.Nu w w2 := by
  obtain ⟨q, rfl⟩ := h
  exact ⟨k.os, k.tape, k.output, k.size, k.block⟩
set_option maxHeartbeats 2000000 in
set_option maxRecDepth 100000 in
theorem segmentOf65 (s : ByteArray) (w : World) (hs : s.size ≤ 140737488355328) :
    Calls Tryd.prog 65 #[.string s] w fun e w' => SegR s.data.toList e ∧ Rg.Kp Rg.Nu w w' := by
  have KA := Rg.Kp.alloc w (.cells #[.int .u64 0, .int .u64 0, .int .u8 0] 26) Rg.Nu
  have xA := heap_alloc_new w (.cells #[.int .u64 0, .int .u64 0, .int .u8 0] 26)
  obtain ⟨w0, ew0⟩ : ∃ w0, w.alloc (.cells #[.int .u64 0, .int .u64 0, .int .u8 0] 26) = w0 := ⟨_, rfl⟩
  rw [ew0] at KA xA
  have C1 := cut81 s 45 w0 hs
  have H0 := hide (And.intro KA (And.intro xA hs))
  clear KA xA hs
  go_enter Tryd.func65, Tryd.ntmps65
  go_wp2_with fail
  refine C1.mono ?_; rintro e w1 ⟨⟨a, r, f1, rfl, a1, a2, a3, a4⟩, k1⟩
  have C2 := cut81 r 58 w1 (by have := H0.out.2.2; omega)
  have H1 := hide (And.intro a1 (And.intro a2 (And.intro a3 (And.intro a4 (kq_nu H0.out.1 k1)))))
  have HX1 : Hid (w1.heap[w.heap.size]? = some (.cells #[.int .u64 0, .int .u64 0, .int .u8 0] 26 (0, 0))) := by obtain ⟨q, rfl⟩ := k1; exact hide H0.out.2.1
  clear C1 a1 a2 a3 a4 k1
  go_wp2_with fail
  refine C2.mono ?_; rintro e w2 ⟨⟨b, c, f2, rfl, b1, b2, b3, b4⟩, k2⟩
  have hsz := H0.out.2.2
  have a3 := H1.out.2.2.1
  have a4 := H1.out.2.2.2.1
  have D1 := decimal82 a w2 (by omega)
  have D2 := decimal82 b w2 (by omega)
  have D3 := decimal82 c w2 (by omega)
  have ha : a.data.toList = pA s.data.toList := H1.out.1
  have hb : b.data.toList = pB s.data.toList := by rw [b1, H1.out.2.1]; rfl
  have hc : c.data.toList = pC s.data.toList := by rw [b2, H1.out.2.1]; rfl
  rw [ha] at D1
  rw [hb] at D2
  rw [hc] at D3
  have x2 : w2.heap[w.heap.size]? = some (.cells #[.int .u64 0, .int .u64 0, .int .u8 0] 26 (0, 0)) := by obtain ⟨q, rfl⟩ := k2; exact HX1.out
  obtain ⟨c0, c1, c2⟩ := Rg.cell3 x2
  have g0 := Rg.free3 x2 0
  have g1 := Rg.free3 x2 1
  have g2 := Rg.free3 x2 2
  have K2 := hide (kq_nu H1.out.2.2.2.2 k2)
  have X2 := hide x2
  have HS : Hid (segF s.data.toList = if dB (pA s.data.toList) = true ∧ dB (pB s.data.toList) = true ∧ dB (pC s.data.toList) = true ∧ dN (pC s.data.toList) < 16 then some ⟨dN (pA s.data.toList), dN (pB s.data.toList), dN (pC s.data.toList)⟩ else none) := hide rfl
  have HT : Hid (dB (pC s.data.toList) = true → dN (pC s.data.toList) ≤ Num.top) := hide dN_le
  generalize dN (pA s.data.toList) = n1 at D1 HS
  generalize dB (pA s.data.toList) = q1 at D1 HS
  generalize dN (pB s.data.toList) = n2 at D2 HS
  generalize dB (pB s.data.toList) = q2 at D2 HS
  generalize dN (pC s.data.toList) = n3 at D3 HS HT
  generalize dB (pC s.data.toList) = q3 at D3 HS HT
  clear C2 b1 b2 b3 b4 k2 hsz a3 a4 ha hb hc x2 HX1 H0 H1
  go_wp2_with fail
  refine D1.mono ?_; rintro e w' ⟨rfl, hw'⟩; obtain rfl := hw'.symm
  go_wp2_with fail
  refine D2.mono ?_; rintro e w' ⟨rfl, hw'⟩; obtain rfl := hw'.symm
  go_wp2_with fail
  refine D3.mono ?_; rintro e w' ⟨rfl, hw'⟩; obtain rfl := hw'.symm
  clear D1 D2 D3
  have fin : ∀ {x y z : Value}, Hid (((((w2.setCell ⟨w.heap.size, 0, none⟩ x).setCell ⟨w.heap.size, 1, none⟩ y).setCell ⟨w.heap.size, 2, none⟩ z).heap[w.heap.size]? = some (.cells #[x, y, z] 26 (0, 0))) ∧ Rg.Kp Rg.Nu w (((w2.setCell ⟨w.heap.size, 0, none⟩ x).setCell ⟨w.heap.size, 1, none⟩ y).setCell ⟨w.heap.size, 2, none⟩ z)) := fun {x y z} => by
    refine hide ⟨?_, ?_⟩
    · have h1 := Rg.set3 X2.out 0 x
      have h2 := Rg.set3 h1 1 y
      exact Rg.set3 h2 2 z
    · exact (((K2.out.andSet _ _ (.inl (Nat.le_refl _))).andSet _ _ (.inl (Nat.le_refl _))).andSet _ _ (.inl (Nat.le_refl _)))
  by_cases hall : q1 = true ∧ q2 = true ∧ q3 = true ∧ n3 < 16
  · obtain ⟨rfl, rfl, rfl, h16⟩ := hall
    have HR : Hid (segF s.data.toList = some ⟨n1, n2, n3⟩) := hide (by rw [HS.out, if_pos ⟨rfl, rfl, rfl, h16⟩])
    have i1 : ¬ (n3 : Int) ≥ 16 := by omega
    have i2 : decide ((n3 : Int) ≥ 16) = false := by simpa using i1
    have i3 : IntKind.u8.wrap (n3 : Int) = (n3 : Int) := by show (n3 : Int) % 256 = n3; omega
    have HF := fin (x := .int .u64 (n1 : Int)) (y := .int .u64 (n2 : Int)) (z := .int .u8 (n3 : Int))
    obtain ⟨y0, y1, y2⟩ := Rg.cell3 HF.out.1
    clear fin h16 HS HT
    go_wp2
    refine bodyPost_ret (v := .tuple #[.agg #[.int .u64 (n1 : Int), .int .u64 (n2 : Int), .int .u8 (n3 : Int)], .bool true]) (by simp [results, Tryd.results65, go_sem, y0, y1, y2]) rfl ?_
    exact ⟨.inr ⟨_, HR.out, rfl⟩, HF.out.2⟩
  · have HR : Hid (segF s.data.toList = none) := hide (by rw [HS.out, if_neg hall])
    have HF := fin (x := .int .u64 0) (y := .int .u64 0) (z := .int .u8 0)
    obtain ⟨y0, y1, y2⟩ := Rg.cell3 HF.out.1
    have HQ := hide hall
    clear fin HS HT hall
    cases q1
    · clear HQ
      go_wp2
      refine bodyPost_ret (v := .tuple #[.agg #[.int .u64 0, .int .u64 0, .int .u8 0], .bool false]) (by simp [results, Tryd.results65, go_sem, y0, y1, y2]) rfl ?_
      exact ⟨.inl ⟨HR.out, rfl⟩, HF.out.2⟩
    cases q2
    · clear HQ
      go_wp2
      refine bodyPost_ret (v := .tuple #[.agg #[.int .u64 0, .int .u64 0, .int .u8 0], .bool false]) (by simp [results, Tryd.results65, go_sem, y0, y1, y2]) rfl ?_
      exact ⟨.inl ⟨HR.out, rfl⟩, HF.out.2⟩
    cases q3
    · clear HQ
      go_wp2
      refine bodyPost_ret (v := .tuple #[.agg #[.int .u64 0, .int .u64 0, .int .u8 0], .bool false]) (by simp [results, Tryd.results65, go_sem, y0, y1, y2]) rfl ?_
      exact ⟨.inl ⟨HR.out, rfl⟩, HF.out.2⟩
    have h16 : ¬ n3 < 16 := fun h => HQ.out ⟨rfl, rfl, rfl, h⟩
    have i1 : (n3 : Int) ≥ 16 := by omega
    have i2 : decide ((n3 : Int) ≥ 16) = true := by simpa using i1
    clear HQ h16
    go_wp2
    refine bodyPost_ret (v := .tuple #[.agg #[.int .u64 0, .int .u64 0, .int .u8 0], .bool false]) (by simp [results, Tryd.results65, go_sem, y0, y1, y2]) rfl ?_
    exact ⟨.inl ⟨HR.out, rfl⟩, HF.out.2⟩
end Go.Proofs.YtffcnonhhfhlhaaDoor.Ws
