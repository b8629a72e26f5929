import Derived.Test.YtbhdhoeaogbfbaaXgC
import Derived.Test.YtbhdhoeaogbfbaaGnM
import Derived.Test.YtbhdhoeaogbfbaaGnE
import Derived.Test.YtbhdhoeaogbfbaaGnK
import Derived.Deep.RegionHeld3
namespace Go.Proofs.Ytbhdhoeaogbfbaa.Xo
open Go.RowKit
set_option linter.unusedVariables false
set_option linter.unusedSimpArgs false
/-- an end may be made so -/
def newOk (sf hosts qn wn : Int) : Prop := 1 ≤ hosts ∧ hosts ≤ 16 ∧ 0 ≤ sf ∧ sf < hosts ∧ 1 ≤ qn ∧ qn ≤ 16 ∧ 1 ≤ wn ∧ wn ≤ qn
set_option maxHeartbeats 1000000 in
theorem new22_ok (sf : Int) (n : Nat) (qn wn : Int) (h : newOk sf n qn wn) (w : World) : Calls Try.prog 22 #[.int .u8 sf, .int .i64 (n : Int), .int .i64 qn, .int .i64 wn] w fun e w' => ∃ eb pb, e = .returned (.tuple #[.pointer (some ⟨eb, 0, none⟩), .int .i64 0]) ∧ w.heap.size ≤ eb ∧ w.heap.size ≤ pb ∧ w'.heap[eb]? = some (.cells #[.int .u8 sf, .int .i64 qn, .int .i64 wn, .slice (some ⟨pb, 0, none⟩) n n] 117 (0, 0)) ∧ Row w' pb 123 (List.replicate n Pr0) ∧ Kp Nu w w' := by
  obtain ⟨h1, h2, h3, h4, h5, h6, h7, h8⟩ := h
  have MK := fun W => mk_peers W n (by omega)
  have hw : wrap64 sf = sf := wrap_small (by omega) (by omega)
  have a1 : ¬ (n : Int) < 1 := by omega
  have a2 : ¬ (n : Int) > 16 := by omega
  have a3 : ¬ sf ≥ (n : Int) := by omega
  have a4 : ¬ wn < 1 := by omega
  have a5 : ¬ wn > qn := by omega
  have a6 : ¬ qn < 1 := by omega
  have a7 : ¬ qn > 16 := by omega
  clear h1 h2 h3 h4 h5 h6 h7 h8
  go_enter Try.func22, Try.ntmps22
  go_wp2_with (simp only [MK])
  refine bodyPost_ret (v := .tuple #[.pointer (some ⟨w.heap.size + 1, 0, none⟩), .int .i64 0]) (by simp [results, Try.results22, go_sem]) rfl ?_
  refine ⟨_, rfl, Nat.le_succ _, _, Nat.le_refl _, ?_, ?_, ((Kp.refl _ _).andAlloc _).andAlloc _⟩
  · have := heap_alloc_new (w.alloc (.cells (flat (List.replicate n Pr0)).toArray 123)) (.cells #[.int .u8 sf, .int .i64 qn, .int .i64 wn, .slice (some ⟨w.heap.size, 0, none⟩) n n] 117)
    simpa using this
  · exact (Below.heap_alloc _ _ _ (by simp)).trans (heap_alloc_new _ _)
set_option maxHeartbeats 1000000 in
theorem new47_ok (sf : Int) (n : Nat) (qn wn : Int) (h : newOk sf n qn wn) (w : World) : Calls Try.prog 47 #[.int .i64 sf, .int .i64 (n : Int), .int .i64 qn, .int .i64 wn] w fun e w' => ∃ eb pb, e = .returned (.tuple #[.pointer (some ⟨eb, 0, none⟩), .int .i64 0]) ∧ w.heap.size ≤ eb ∧ w.heap.size ≤ pb ∧ w'.heap[eb]? = some (.cells #[.bool true, .int .i64 sf, .int .i64 (n : Int), .int .i64 qn, .int .i64 wn, .slice (some ⟨pb, 0, none⟩) n n] 37 (0, 0)) ∧ Row w' pb 66 (List.replicate n Pr0) ∧ Kp Nu w w' := by
  obtain ⟨h1, h2, h3, h4, h5, h6, h7, h8⟩ := h
  have MK := fun W => mk_told W n (by omega)
  have a1 : ¬ (n : Int) < 1 := by omega
  have a2 : ¬ (n : Int) > 16 := by omega
  have a3 : ¬ sf ≥ (n : Int) := by omega
  have a8 : ¬ sf < 0 := by omega
  have a4 : ¬ wn < 1 := by omega
  have a5 : ¬ wn > qn := by omega
  have a6 : ¬ qn < 1 := by omega
  have a7 : ¬ qn > 16 := by omega
  clear h1 h2 h3 h4 h5 h6 h7 h8
  go_enter Try.func47, Try.ntmps47
  go_wp2_with (simp only [MK])
  refine bodyPost_ret (v := .tuple #[.pointer (some ⟨w.heap.size + 1, 0, none⟩), .int .i64 0]) (by simp [results, Try.results47, go_sem]) rfl ?_
  refine ⟨_, rfl, Nat.le_succ _, _, Nat.le_refl _, ?_, ?_, ((Kp.refl _ _).andAlloc _).andAlloc _⟩
  · have := heap_alloc_new (w.alloc (.cells (flat (List.replicate n Pr0)).toArray 66)) (.cells #[.bool true, .int .i64 sf, .int .i64 (n : Int), .int .i64 qn, .int .i64 wn, .slice (some ⟨w.heap.size, 0, none⟩) n n] 37)
    simpa using this
  · exact (Below.heap_alloc _ _ _ (by simp)).trans (heap_alloc_new _ _)
set_option maxHeartbeats 4000000 in
theorem new22_no (sf n qn wn : Int) (hs : 0 ≤ sf ∧ sf < 256) (h : ¬ newOk sf n qn wn) (w : World) : Calls Try.prog 22 #[.int .u8 sf, .int .i64 n, .int .i64 qn, .int .i64 wn] w fun e w' => e = .returned (.tuple #[.pointer none, .int .i64 2]) ∧ w' = w := by
  have hw : wrap64 sf = sf := wrap_small (by omega) (by omega)
  unfold newOk at h
  have hc : n < 1 ∨ (¬ n < 1 ∧ n > 16) ∨ (¬ n < 1 ∧ ¬ n > 16 ∧ sf ≥ n) ∨ (¬ n < 1 ∧ ¬ n > 16 ∧ ¬ sf ≥ n ∧ (qn < 1 ∨ (¬ qn < 1 ∧ qn > 16) ∨ (¬ qn < 1 ∧ ¬ qn > 16 ∧ wn < 1) ∨ (¬ qn < 1 ∧ ¬ qn > 16 ∧ ¬ wn < 1 ∧ wn > qn))) := by omega
  clear h hs
  rcases hc with h1 | ⟨h1, h2⟩ | ⟨h1, h2, h3⟩ | ⟨h1, h2, h3, h4 | ⟨h4, h5⟩ | ⟨h4, h5, h6⟩ | ⟨h4, h5, h6, h7⟩⟩
  all_goals go_enter Try.func22, Try.ntmps22
  all_goals go_wp2
  all_goals go_ret2
  all_goals exact ⟨rfl, rfl⟩
set_option maxHeartbeats 4000000 in
theorem new47_no (sf n qn wn : Int) (h : ¬ newOk sf n qn wn) (w : World) : Calls Try.prog 47 #[.int .i64 sf, .int .i64 n, .int .i64 qn, .int .i64 wn] w fun e w' => ∃ db, e = .returned (.tuple #[.pointer (some ⟨db, 0, none⟩), .int .i64 2]) ∧ w.heap.size ≤ db ∧ w'.heap[db]? = some (.cells #[.bool false, .int .i64 0, .int .i64 0, .int .i64 0, .int .i64 0, .slice none 0 0] 37 (0, 0)) ∧ Kp Nu w w' := by
  unfold newOk at h
  have hc : n < 1 ∨ (¬ n < 1 ∧ n > 16) ∨ (¬ n < 1 ∧ ¬ n > 16 ∧ sf < 0) ∨ (¬ n < 1 ∧ ¬ n > 16 ∧ ¬ sf < 0 ∧ sf ≥ n) ∨ (¬ n < 1 ∧ ¬ n > 16 ∧ ¬ sf < 0 ∧ ¬ sf ≥ n ∧ (qn < 1 ∨ (¬ qn < 1 ∧ qn > 16) ∨ (¬ qn < 1 ∧ ¬ qn > 16 ∧ wn < 1) ∨ (¬ qn < 1 ∧ ¬ qn > 16 ∧ ¬ wn < 1 ∧ wn > qn))) := by omega
  clear h
  rcases hc with h1 | ⟨h1, h2⟩ | ⟨h1, h2, h3⟩ | ⟨h1, h2, h3, h0⟩ | ⟨h1, h2, h3, h0, h4 | ⟨h4, h5⟩ | ⟨h4, h5, h6⟩ | ⟨h4, h5, h6, h7⟩⟩
  all_goals go_enter Try.func47, Try.ntmps47
  all_goals go_wp2
  all_goals go_ret2
  all_goals exact ⟨_, rfl, Nat.le_refl _, heap_alloc_new _ _, (Kp.refl _ _).andAlloc _⟩
end Go.Proofs.Ytbhdhoeaogbfbaa.Xo
namespace Go.Proofs.Ytbhdhoeaogbfbaa.Xo
open Go.RowKit
set_option linter.unusedVariables false
set_option linter.unusedSimpArgs false
/-- how far above dl the last of some frames was -/
def lst (dl : Int) : Int → List Fm → Int
  | last, [] => last
  | _, f :: r => lst dl (f.seq - dl) r
def tstE (dl wn last : Int) (f : Fm) : Bool := decide (f.seq > dl) && (decide (f.seq - dl > last) && (decide (f.seq - dl ≤ wn) && !unf f.ys))
theorem okE_snoc (dl wn : Int) (f : Fm) : ∀ (l : List Fm) (last : Int), okE dl wn last (l ++ [f]) = (okE dl wn last l && tstE dl wn (lst dl last l) f)
  | [], last => by simp [okE, lst, tstE]
  | g :: r, last => by
    show (_ && okE dl wn (g.seq - dl) (r ++ [f])) = _
    rw [okE_snoc dl wn f r]
    simp only [okE, lst, Bool.and_assoc]
theorem okE_pre (dl wn : Int) : ∀ (l r : List Fm) (last : Int), okE dl wn last (l ++ r) = true → okE dl wn last l = true
  | [], r, last, _ => rfl
  | g :: l, r, last, h => by
    simp only [List.cons_append, okE, Bool.and_eq_true] at h ⊢
    exact ⟨h.1, okE_pre dl wn l r _ h.2⟩
theorem lst_snoc (dl : Int) (f : Fm) : ∀ (l : List Fm) (last : Int), lst dl last (l ++ [f]) = f.seq - dl
  | [], last => rfl
  | g :: r, last => lst_snoc dl f r _
theorem okE_bad {dl wn : Int} {es : List Fm} {i : Nat} {f : Fm} (hf : es[i]? = some f) (h : tstE dl wn (lst dl 1 (es.take i)) f = false) : okE dl wn 1 es = false := by
  cases hb : okE dl wn 1 es with
  | false => rfl
  | true =>
    have e : es = es.take (i + 1) ++ es.drop (i + 1) := (List.take_append_drop _ _).symm
    rw [e] at hb
    have h1 := okE_pre dl wn _ _ _ hb
    rw [List.take_add_one, hf] at h1
    have h2 := okE_snoc dl wn f (es.take i) 1
    have h3 : es.take i ++ (some f).toList = es.take i ++ [f] := rfl
    rw [h3, h2, h, Bool.and_false] at h1
    exact h1.symm
theorem okE_good {dl wn : Int} {es : List Fm} {i : Nat} {f : Fm} (hf : es[i]? = some f) (hg : okE dl wn 1 (es.take i) = true) (h : tstE dl wn (lst dl 1 (es.take i)) f = true) : okE dl wn 1 (es.take (i + 1)) = true := by
  rw [List.take_add_one, hf]
  have h3 : es.take i ++ (some f).toList = es.take i ++ [f] := rfl
  rw [h3, okE_snoc, hg, h]; rfl
theorem lst_take {dl : Int} {es : List Fm} {i : Nat} {g : Fm} (hg : es[i]? = some g) : lst dl 1 (es.take (i + 1)) = g.seq - dl := by
  rw [List.take_add_one, hg]
  have h3 : es.take i ++ (some g).toList = es.take i ++ [g] := rfl
  rw [h3, lst_snoc]
/-- a state may be loaded, but for what stands in its payloads -/
def okN (s a m qn d : Int) (n : Int) : Bool := !(decide (s < a) || ((d != n) || (decide (qn < n) || !inM m d)))
theorem okO_N (s a m qn d : Int) (qs : List (Value × List Int)) : okO s a m qn d qs = (okN s a m qn d qs.length && !(qs.any (fun x => unf x.2))) := by
  unfold okO okN
  rw [Bool.eq_iff_iff]
  simp only [Bool.and_eq_true, decide_eq_true_eq, Bool.not_eq_true', Bool.or_eq_false_iff, decide_eq_false_iff_not, beq_iff_eq, bne_eq_false_iff_eq, Bool.not_eq_false']
  constructor
  · rintro ⟨h1, h2, h3, h4, h5⟩; exact ⟨⟨by omega, h3.symm, by omega, h4⟩, h5⟩
  · rintro ⟨⟨h1, h2, h3, h4⟩, h5⟩; exact ⟨by omega, by omega, h2.symm, h4, h5⟩
end Go.Proofs.Ytbhdhoeaogbfbaa.Xo
