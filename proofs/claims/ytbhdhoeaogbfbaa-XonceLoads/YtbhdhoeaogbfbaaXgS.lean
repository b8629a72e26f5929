import Derived.Test.YtbhdhoeaogbfbaaXgR
import Derived.Test.YtbhdhoeaogbfbaaXgF
namespace Go.Proofs.Ytbhdhoeaogbfbaa.Xo
open Go.RowKit
set_option linter.unusedVariables false
set_option linter.unusedSimpArgs false
/-- what is told of an end that was not made -/
theorem state20_nil (w : World) : Calls Try.prog 20 #[.pointer none] w fun e w' => e = .returned (.agg #[.slice none 0 0]) ∧ Kp Nu w w' := by
  have MA : ∀ W, Calls Try.prog 50 #[.pointer none] W fun e w' => e = .returned (.bool false) ∧ w' = W := fun W => by
    go_enter Try.func50, Try.ntmps50
    go_wp2
    go_ret
    exact ⟨rfl, rfl⟩
  have HB : Hid ((w.alloc (.cells #[.slice none 0 0] 24)).heap[w.heap.size]? = some (.cells #[.slice none 0 0] 24 (0, 0))) := hide (heap_alloc_new w _)
  have x0 := cellAt HB.out 0 (by rfl)
  have f0 := free3 HB.out 0
  go_enter Try.func20, Try.ntmps20
  go_wp2_with (go_at_call 50; refine (MA _).mono ?_; rintro e w1 ⟨rfl, hw1⟩; obtain rfl := hw1.symm)
  refine bodyPost_ret (results_cell_row rfl _ _ w.heap.size 24 _ _ _ rfl HB.out Try.underlying24 rfl info24) rfl ?_
  exact ⟨rfl, (Kp.refl Nu w).andAlloc _⟩
/-- a state's answer fits -/
def FitA (a : Ab) : Prop := a.q.length ≤ 16 ∧ (∀ y ∈ a.q, unf y = false) ∧ a.e.length ≤ 16 ∧ ∀ f ∈ a.e, unf f.2 = false
theorem fit_ab (x : Px) : Fit x ↔ FitA x.ab := by
  unfold Fit FitA Px.ab
  simp only [List.length_map, List.forall_mem_map, fse]
theorem fit_list {xs I : List Px} (h : xs.map Px.ab = I.map Px.ab) (hI : ∀ x ∈ I, Fit x) : ∀ x ∈ xs, Fit x := fun x hx => by
  have h1 : x.ab ∈ I.map Px.ab := by rw [← h]; exact List.mem_map_of_mem hx
  obtain ⟨y, hy, e⟩ := List.mem_map.1 h1
  rw [fit_ab, ← e, ← fit_ab]
  exact hI y hy
theorem okE_pay2 {dl wn : Int} : ∀ (es : List Fm) (last : Int), okE dl wn last es = true → ∀ f ∈ es, unf f.ys = false
  | [], _, _, f, hf => by cases hf
  | g :: r, last, h, f, hf => by
    simp only [okE, Bool.and_eq_true, Bool.not_eq_true'] at h
    rcases List.mem_cons.1 hf with rfl | hf
    · exact h.1.2.2.2
    · exact okE_pay2 r _ h.2 f hf
theorem fit_good {sf qn wn : Int} {i : Nat} {x : Px} (hq : qn ≤ 16) (hw : wn ≤ 16) (h : goodP sf qn wn i x = true) : Fit x := by
  unfold goodP at h
  split at h
  · unfold zeroS at h
    simp only [Bool.and_eq_true, decide_eq_true_eq] at h
    obtain ⟨h1, h2, h3, h4, h5, h6⟩ := h
    have e1 := List.eq_nil_of_length_eq_zero h5
    have e2 := List.eq_nil_of_length_eq_zero h6
    unfold Fit
    rw [e1, e2]
    simp
  · simp only [Bool.and_eq_true] at h
    obtain ⟨h1, h2⟩ := h
    unfold okO at h1
    simp only [Bool.and_eq_true, decide_eq_true_eq, Bool.not_eq_true'] at h1
    obtain ⟨h3, h4, h5, h6, h7⟩ := h1
    refine ⟨by omega, fun y hy => ?_, ?_, okE_pay2 _ _ h2⟩
    · rw [List.any_eq_false] at h7
      simpa using h7 y hy
    · rcases okE_len _ _ h2 with e | e
      · rw [e]; simp
      · omega
theorem fit_ld {sf hosts qn wn : Int} {I : List Px} (h : ldOk sf hosts qn wn I) : ∀ x ∈ I, Fit x := fun x hx => by
  obtain ⟨⟨h1, h2, h3, h4, h5, h6, h7, h8⟩, _, hg⟩ := h
  obtain ⟨i, hi⟩ := List.mem_iff_getElem?.1 hx
  exact fit_good h6 (by omega) (hg i x hi)
/-- an end of zero states -/
def Px0 : Px := ⟨Pr0, []⟩
theorem pm_zero {w : World} {G : Nat → Prop} : Pm w G Px0 :=
  ⟨own_nil', (fun y hy => by cases hy), own_nil', (fun f hf => by cases hf), (fun g hg => by cases hg), (fun g hg => by cases hg)⟩
theorem YesP.zero {w w' : World} {eb pb : Nat} {sf qn wn : Int} {n : Nat} (k : Kp Nu w w') (h1 : w.heap.size ≤ eb) (h2 : w.heap.size ≤ pb) (h3 : w'.heap[eb]? = some (.cells #[.int .u8 sf, .int .i64 qn, .int .i64 wn, .slice (some ⟨pb, 0, none⟩) n n] 117 (0, 0))) (h4 : Row w' pb 123 (List.replicate n Pr0)) : YesP w w' eb sf qn wn (List.replicate n Px0) :=
  ⟨k, h1, ⟨pb, h2, by rw [List.length_replicate]; exact h3, by rw [List.map_replicate]; exact h4⟩, fun x hx => by rw [(List.mem_replicate.1 hx).2]; exact pm_zero, List.pairwise_replicate.2 (.inr ⟨(fun g hg => by cases hg), (fun g hg => by cases hg)⟩)⟩
theorem YesE.zero {w w' : World} {eb pb : Nat} {sf qn wn : Int} {n : Nat} (k : Kp Nu w w') (h1 : w.heap.size ≤ eb) (h2 : w.heap.size ≤ pb) (h3 : w'.heap[eb]? = some (.cells #[.bool true, .int .i64 sf, .int .i64 (n : Int), .int .i64 qn, .int .i64 wn, .slice (some ⟨pb, 0, none⟩) n n] 37 (0, 0))) (h4 : Row w' pb 66 (List.replicate n Pr0)) : YesE w w' eb sf qn wn (List.replicate n Px0) :=
  ⟨k, h1, ⟨pb, h2, by rw [List.length_replicate]; exact h3, by rw [List.map_replicate]; exact h4⟩, fun x hx => by rw [(List.mem_replicate.1 hx).2]; exact pm_zero⟩
/-- a Setup -/
abbrev Su (self hosts qn wn : Int) (ld : Bool) (v : Value) : Value := .agg #[.int .i64 self, .int .i64 hosts, .int .i64 qn, .int .i64 wn, .bool ld, v]
/-- a Setup that is right -/
def suOk (ks hosts qn wn : Int) (ld : Bool) (I : List Px) : Prop := if ld then ldOk ks hosts qn wn I else newOk ks hosts qn wn
/-- what its peers are then -/
def suI (hosts : Int) (ld : Bool) (I : List Px) : List Px := if ld then I else List.replicate hosts.toNat Px0
/-- its error -/
def suE (ks hosts qn wn : Int) : Int := if newOk ks hosts qn wn then 87 else 2
set_option maxHeartbeats 2000000 in
theorem made17 (w : World) (self hosts qn wn : Int) (ks : Nat) (hks : IntKind.u8.wrap self = (ks : Int)) (hk8 : ks < 256) (ld : Bool) (v : Value) (I : List Px) (hI : Wi w v I) (hb : ∀ x ∈ I, Bd x) (hl : I.length ≤ 1759218604441) :
    Calls Try.prog 17 #[Su self hosts qn wn ld v] w fun e w' => (suOk (ks : Int) hosts qn wn ld I ∧ ∃ eb xs, e = .returned (.tuple #[.pointer (some ⟨eb, 0, none⟩), .int .i64 0]) ∧ xs.map Px.ab = (suI hosts ld I).map Px.ab ∧ YesP (w.alloc (.cells #[.int .i64 self, .int .i64 hosts, .int .i64 qn, .int .i64 wn, .bool ld, v] 26)) w' eb (ks : Int) qn wn xs) ∨ (¬ suOk (ks : Int) hosts qn wn ld I ∧ e = .returned (.tuple #[.pointer none, .int .i64 (suE (ks : Int) hosts qn wn)]) ∧ Kp Nu (w.alloc (.cells #[.int .i64 self, .int .i64 hosts, .int .i64 qn, .int .i64 wn, .bool ld, v] 26)) w') := by
  obtain ⟨aI, cI, eI⟩ := hI.slice
  subst eI
  have kA : Kp Nu w (w.alloc (.cells #[.int .i64 self, .int .i64 hosts, .int .i64 qn, .int .i64 wn, .bool ld, .slice aI I.length cI] 26)) := (Kp.refl _ w).andAlloc _
  have LD := fun W (k : Kp Nu w W) => load30 W ks hosts qn wn hk8 _ I (hI.nu k) hb hl
  have hk2 : wrap64 (ks : Int) = (ks : Int) := wrap_small (by omega) (by omega)
  obtain ⟨cd, hcd⟩ : ∃ c, (if newOk (ks : Int) hosts qn wn then (87 : Int) else 2) = c := ⟨_, rfl⟩
  have hsu : suE (ks : Int) hosts qn wn = cd := hcd
  simp only [hcd] at LD
  rw [hsu]
  clear hcd
  have hbx := heap_alloc_new w (.cells #[.int .i64 self, .int .i64 hosts, .int .i64 qn, .int .i64 wn, .bool ld, .slice aI I.length cI] 26)
  have b0 := cellAt hbx 0 rfl
  have b1 := cellAt hbx 1 rfl
  have b2 := cellAt hbx 2 rfl
  have b3 := cellAt hbx 3 rfl
  have b4 := cellAt hbx 4 rfl
  have b5 := cellAt hbx 5 rfl
  generalize I.length = n at *
  cases ld with
  | true =>
    have HP := hide kA
    clear hbx kA hI
    go_enter Try.func17, Try.ntmps17
    go_wp2_with (go_at_call 30; refine (LD _ HP.out).mono ?_; rintro e w1 H1; rcases H1 with ⟨h1, eb, xs, rfl, h2, h3⟩ | ⟨h1, rfl, h2⟩)
    · refine bodyPost_ret (v := .tuple #[.pointer (some ⟨eb, 0, none⟩), .int .i64 0]) (by simp [results, Try.results17, go_sem]) rfl ?_
      exact .inl ⟨h1, eb, xs, rfl, h2, h3⟩
    · refine bodyPost_ret (v := .tuple #[.pointer none, .int .i64 cd]) (by simp [results, Try.results17, go_sem]) rfl ?_
      exact .inr ⟨h1, rfl, h2⟩
  | false =>
    have HP := hide kA
    clear hbx kA hI
    by_cases hn : newOk (ks : Int) hosts qn wn
    · obtain ⟨m, rfl⟩ : ∃ m : Nat, hosts = (m : Int) := ⟨hosts.toNat, by have := hn.1; omega⟩
      have NW := fun W => new22_ok (ks : Int) m qn wn hn W
      have HN := hide hn
      clear hn LD hl hb
      go_enter Try.func17, Try.ntmps17
      go_wp2_with (go_at_call 22; refine (NW _).mono ?_; rintro e w1 ⟨eb, pb, rfl, h2, h3, h4, h5, h6⟩; clear NW; have Z := hide (YesP.zero h6 h2 h3 h4 h5); clear h2 h3 h4 h5 h6)
      refine bodyPost_ret (v := .tuple #[.pointer (some ⟨eb, 0, none⟩), .int .i64 0]) (by simp [results, Try.results17, go_sem]) rfl ?_
      exact .inl ⟨HN.out, eb, _, rfl, rfl, Z.out⟩
    · have HN := hide hn
      have NW := fun W => new22_no (ks : Int) hosts qn wn ⟨by omega, by omega⟩ hn W
      have he : suE (ks : Int) hosts qn wn = 2 := if_neg hn
      rw [hsu] at he
      subst he
      clear hn LD hl hb
      go_enter Try.func17, Try.ntmps17
      go_wp2_with (go_at_call 22; refine (NW _).mono ?_; rintro e w1 ⟨rfl, h2⟩; obtain rfl := h2.symm; clear NW)
      refine bodyPost_ret (v := .tuple #[.pointer none, .int .i64 2]) (by simp [results, Try.results17, go_sem]) rfl ?_
      exact .inr ⟨HN.out, rfl, Kp.refl _ _⟩
set_option maxHeartbeats 2000000 in
theorem meant15 (w : World) (self hosts qn wn : Int) (ks : Nat) (hks : IntKind.u8.wrap self = (ks : Int)) (hk8 : ks < 256) (ld : Bool) (v : Value) (I : List Px) (hI : Wi w v I) (hb : ∀ x ∈ I, Bd x) (hl : I.length ≤ 1759218604441) :
    Calls Try.prog 15 #[Su self hosts qn wn ld v] w fun e w' => ∃ db, (suOk (ks : Int) hosts qn wn ld I ∧ e = .returned (.tuple #[.pointer (some ⟨db, 0, none⟩), .int .i64 0]) ∧ ∃ xs, xs.map Px.ab = (suI hosts ld I).map Px.ab ∧ YesE (w.alloc (.cells #[.int .i64 self, .int .i64 hosts, .int .i64 qn, .int .i64 wn, .bool ld, v] 26)) w' db (ks : Int) qn wn xs) ∨ (¬ suOk (ks : Int) hosts qn wn ld I ∧ e = .returned (.tuple #[.pointer (some ⟨db, 0, none⟩), .int .i64 (suE (ks : Int) hosts qn wn)]) ∧ NoE (w.alloc (.cells #[.int .i64 self, .int .i64 hosts, .int .i64 qn, .int .i64 wn, .bool ld, v] 26)) w' db) := by
  obtain ⟨aI, cI, eI⟩ := hI.slice
  subst eI
  have kA : Kp Nu w (w.alloc (.cells #[.int .i64 self, .int .i64 hosts, .int .i64 qn, .int .i64 wn, .bool ld, .slice aI I.length cI] 26)) := (Kp.refl _ w).andAlloc _
  have LD := fun W (k : Kp Nu w W) => load46 W (ks : Int) hosts qn wn _ I (hI.nu k) hb hl
  have hk2 : wrap64 (ks : Int) = (ks : Int) := wrap_small (by omega) (by omega)
  obtain ⟨cd, hcd⟩ : ∃ c, (if newOk (ks : Int) hosts qn wn then (87 : Int) else 2) = c := ⟨_, rfl⟩
  have hsu : suE (ks : Int) hosts qn wn = cd := hcd
  simp only [hcd] at LD
  rw [hsu]
  clear hcd
  have hbx := heap_alloc_new w (.cells #[.int .i64 self, .int .i64 hosts, .int .i64 qn, .int .i64 wn, .bool ld, .slice aI I.length cI] 26)
  have b0 := cellAt hbx 0 rfl
  have b1 := cellAt hbx 1 rfl
  have b2 := cellAt hbx 2 rfl
  have b3 := cellAt hbx 3 rfl
  have b4 := cellAt hbx 4 rfl
  have b5 := cellAt hbx 5 rfl
  generalize I.length = n at *
  cases ld with
  | true =>
    have HP := hide kA
    clear hbx kA hI
    go_enter Try.func15, Try.ntmps15
    go_wp2_with (go_at_call 46; refine (LD _ HP.out).mono ?_; rintro e w1 ⟨db, H1⟩; rcases H1 with ⟨h1, rfl, xs, h2, h3⟩ | ⟨h1, rfl, h2⟩)
    · refine bodyPost_ret (v := .tuple #[.pointer (some ⟨db, 0, none⟩), .int .i64 0]) (by simp [results, Try.results15, go_sem]) rfl ?_
      exact ⟨db, .inl ⟨h1, rfl, xs, h2, h3⟩⟩
    · refine bodyPost_ret (v := .tuple #[.pointer (some ⟨db, 0, none⟩), .int .i64 cd]) (by simp [results, Try.results15, go_sem]) rfl ?_
      exact ⟨db, .inr ⟨h1, rfl, h2⟩⟩
  | false =>
    have HP := hide kA
    clear hbx kA hI
    by_cases hn : newOk (ks : Int) hosts qn wn
    · obtain ⟨m, rfl⟩ : ∃ m : Nat, hosts = (m : Int) := ⟨hosts.toNat, by have := hn.1; omega⟩
      have NW := fun W => new47_ok (ks : Int) m qn wn hn W
      have HN := hide hn
      clear hn LD hl hb
      go_enter Try.func15, Try.ntmps15
      go_wp2_with (go_at_call 47; refine (NW _).mono ?_; rintro e w1 ⟨eb, pb, rfl, h2, h3, h4, h5, h6⟩; clear NW; have Z := hide (YesE.zero h6 h2 h3 h4 h5); clear h2 h3 h4 h5 h6)
      refine bodyPost_ret (v := .tuple #[.pointer (some ⟨eb, 0, none⟩), .int .i64 0]) (by simp [results, Try.results15, go_sem]) rfl ?_
      exact ⟨eb, .inl ⟨HN.out, rfl, _, rfl, Z.out⟩⟩
    · have HN := hide hn
      have NW := fun W => new47_no (ks : Int) hosts qn wn hn W
      have he : suE (ks : Int) hosts qn wn = 2 := if_neg hn
      rw [hsu] at he
      subst he
      clear hn LD hl hb
      go_enter Try.func15, Try.ntmps15
      go_wp2_with (go_at_call 47; refine (NW _).mono ?_; rintro e w1 ⟨db, rfl, h2⟩; clear NW; have Z := hide h2; clear h2)
      refine bodyPost_ret (v := .tuple #[.pointer (some ⟨db, 0, none⟩), .int .i64 2]) (by simp [results, Try.results15, go_sem]) rfl ?_
      exact ⟨db, .inr ⟨HN.out, rfl, Z.out⟩⟩
end Go.Proofs.Ytbhdhoeaogbfbaa.Xo
