import Derived.Test.YtcbonbeogdgogaaLrD
import Derived.Test.YtcbonbeogdgogaaLiG
namespace Go.Proofs.Ytcbonbeogdgogaa.Li
open Go.RowKit
set_option linter.unusedVariables false
theorem info64z : (Try.prog.info? 64).map (fun i => (i.zero, i.size, i.bytes)) = some (some (.agg #[.bool false, .slice none 0 0]), 2, 32) := by kernel_rfl
/-- a cell of the program's, with its bytes -/
structure Cv where
  h : Bool
  a : Option Addr
  n : Nat
  c : Nat
  X : List Int
def Cv.cells (q : Cv) : List Value := [.bool q.h, .slice q.a q.n q.c]
def Cv.o (q : Cv) : Option (List Int) := opt q.h q.X
def flatq (Q : List Cv) : List Value := Q.flatMap Cv.cells
theorem flatq_snoc (Q : List Cv) (q : Cv) : flatq (Q ++ [q]) = flatq Q ++ q.cells := by simp [flatq]
theorem flatq_len (Q : List Cv) : (flatq Q).length = Q.length * 2 := by
  induction Q with
  | nil => rfl
  | cons d D ih =>
    have : flatq (d :: D) = d.cells ++ flatq D := rfl
    rw [this, List.length_append, ih]
    show 2 + _ = _
    simp
    omega
theorem flatq_at {D : List Cv} {i j : Nat} {d : Cv} {v : Value} (hd : D[i]? = some d) (hv : d.cells[j]? = some v) : (flatq D)[i * 2 + j]? = some v := by
  induction D generalizing i with
  | nil => simp at hd
  | cons e D ih =>
    have hf : flatq (e :: D) = e.cells ++ flatq D := rfl
    have hl : e.cells.length = 2 := rfl
    have hj : j < 2 := by have := (List.getElem?_eq_some_iff.1 hv).1; simpa [Cv.cells] using this
    cases i with
    | zero =>
      simp only [List.getElem?_cons_zero, Option.some.injEq] at hd
      subst hd
      rw [hf, Nat.zero_mul, Nat.zero_add, List.getElem?_append_left (by omega)]
      exact hv
    | succ i =>
      simp only [List.getElem?_cons_succ] at hd
      rw [hf, List.getElem?_append_right (by omega), hl]
      have : (i + 1) * 2 + j - 2 = i * 2 + j := by omega
      rw [this]
      exact ih hd
/-- the bytes of a cell can be read -/
def CvOk (w : World) (q : Cv) : Prop := By w (.slice q.a q.n q.c) q.X ∧ (q.h = false → q.X = [])
/-- cells in memory -/
structure Cq (w : World) (u : Value) (Q : List Cv) : Prop where
  at_ : ∃ g cap, u = .slice (some ⟨g, 0, none⟩) Q.length cap ∧ ∀ (i : Nat) q, Q[i]? = some q → w.cell? ⟨g, i * 2, none⟩ = some (.bool q.h) ∧ w.cell? ⟨g, i * 2 + 1, none⟩ = some (.slice q.a q.n q.c)
  ok : ∀ q ∈ Q, CvOk w q
theorem Cq.nu {w w' : World} {u : Value} {Q : List Cv} (h : Cq w u Q) (k : Kp Nu w w') : Cq w' u Q := by
  obtain ⟨g, cap, h0, h1⟩ := h.at_
  refine ⟨⟨g, cap, h0, fun i q hq => ?_⟩, fun q hq => ⟨(h.ok q hq).1.nu k, (h.ok q hq).2⟩⟩
  obtain ⟨x, y⟩ := h1 i q hq
  exact ⟨(World.cell?_of_block (k.block _ (World.block_lt_of_cell? w _ x) (fun h => h))).trans x, (World.cell?_of_block (k.block _ (World.block_lt_of_cell? w _ y) (fun h => h))).trans y⟩
theorem Cq.of_own {w : World} {B : Nat} {v : Value} {Q : List Cv} (h : w.ownsRow B 64 2 v Q.length (flatq Q)) (h0 : 0 < Q.length) (ok : ∀ q ∈ Q, CvOk w q) : Cq w v Q := by
  refine ⟨?_, ok⟩
  rcases h.2 with ⟨rfl, h1⟩ | ⟨g, cap, cur, rfl, hb', hg, h1, h2, h3, h4⟩
  · omega
  · have get : ∀ (i j : Nat) q v, Q[i]? = some q → q.cells[j]? = some v → w.cell? ⟨g, i * 2 + j, none⟩ = some v := fun i j q v hq hv => by
      have hf := flatq_at hq hv
      rw [← h4] at hf
      have hlt : i * 2 + j < Q.length * 2 := by
        have := (List.getElem?_eq_some_iff.1 hf).1
        rw [List.length_take] at this
        omega
      rw [List.getElem?_take_of_lt hlt] at hf
      simpa [World.cell?, hg] using hf
    exact ⟨g, cap, rfl, fun i q hq => ⟨get i 0 q _ hq rfl, get i 1 q _ hq rfl⟩⟩
/-- the first place of a cell -/
def pl : List (Option (List Int)) → Option (List Int) → Option Nat
  | [], x => none
  | y :: C, x => if y = x then some 0 else (pl C x).map (· + 1)
theorem pl_at {x : Option (List Int)} : ∀ {C : List (Option (List Int))} {i : Nat}, C[i]? = some x → (∀ k, k < i → C[k]? ≠ some x) → pl C x = some i
  | [], i, h, _ => by simp at h
  | y :: C, 0, h, _ => by
    simp at h
    simp [pl, h]
  | y :: C, i + 1, h, hn => by
    have h0 := hn 0 (by omega)
    have hy : ¬ y = x := fun e => h0 (by simp [e])
    unfold pl
    rw [if_neg hy, pl_at (C := C) (i := i) (by simpa using h) (fun k hk => by have := hn (k + 1) (by omega); simpa using this)]
    rfl
theorem pl_none {x : Option (List Int)} : ∀ {C : List (Option (List Int))}, (∀ k, k < C.length → C[k]? ≠ some x) → pl C x = none
  | [], _ => rfl
  | y :: C, hn => by
    have h0 := hn 0 (by simp)
    have hy : ¬ y = x := fun e => h0 (by simp [e])
    unfold pl
    rw [if_neg hy, pl_none (C := C) (fun k hk => by have := hn (k + 1) (by simp; omega); simpa using this)]
    rfl
theorem opt_inj {h1 h2 : Bool} {X1 X2 : List Int} (e1 : h1 = false → X1 = []) (e2 : h2 = false → X2 = []) : opt h1 X1 = opt h2 X2 ↔ h1 = h2 ∧ X1 = X2 := by
  cases h1 <;> cases h2 <;> simp [opt]
  rw [e1 rfl, e2 rfl]
set_option maxRecDepth 100000 in
set_option maxHeartbeats 4000000 in
theorem index115 (w : World) (u : Value) (Q : List Cv) (q : Cv) (hQ : Cq w u Q) (hq : CvOk w q) (hN : Q.length ≤ 17) :
    Calls Try.prog 115 #[u, .func (.func 83) #[.agg #[.bool q.h, .slice q.a q.n q.c]] #[]] w fun e w' => e = .returned (.int .i64 (enc (pl (Q.map Cv.o) q.o))) ∧ Kp Nu w w' := by
  obtain ⟨g, cap, hu, _⟩ := id hQ.at_
  subst hu
  obtain ⟨N, eN⟩ : ∃ N, Q.length = N := ⟨_, rfl⟩
  have HQ := hide (And.intro hQ (And.intro hq eN))
  rw [eN] at hN ⊢
  have hNI : (N : Int) ≤ 17 := by omega
  clear hQ hq eN hN
  go_enter Try.func115, Try.ntmps115
  go_wp2
  go_loopw [8] (fun iv wr => ∃ i : Nat, iv = .int .i64 (i : Int) ∧ i ≤ N ∧ Hid (Kp Nu w wr ∧ ∀ k, k < i → (Q.map Cv.o)[k]? ≠ some q.o)) (fun iv _ => N - (intOf iv).toNat)
  case atStart => exact ⟨0, rfl, Nat.zero_le _, hide ⟨Kp.refl _ _, fun k hk => by omega⟩⟩
  case round =>
    obtain ⟨i, rfl, hi, hI⟩ := hrel
    have hi0 : (0 : Int) ≤ (i : Int) := by omega
    have eti : (i : Int).toNat = i := by omega
    by_cases hlt : i < N
    · have hltI : (i : Int) < (N : Int) := by omega
      obtain ⟨d, hd⟩ : ∃ d, Q[i]? = some d := ⟨_, List.getElem?_eq_getElem (by rw [HQ.out.2.2]; exact hlt)⟩
      obtain ⟨g', cap', hu, hc⟩ := (HQ.out.1.nu hI.out.1).at_
      simp only [Value.slice.injEq, Option.some.injEq, Addr.mk.injEq, and_true, true_and] at hu
      obtain ⟨rfl, _, _⟩ := hu
      obtain ⟨x0, x1⟩ := hc i d hd
      have ok := (HQ.out.1.nu hI.out.1).ok d (List.mem_of_getElem? hd)
      have IS := is83 wr q.h d.h q.a d.a q.n q.c d.n d.c q.X d.X (HQ.out.2.1.1.nu hI.out.1) ok.1
      have HC := hide (And.intro hd (opt_inj HQ.out.2.1.2 ok.2))
      clear hd hc ok
      go_wp2_with fail
      refine IS.mono ?_; rintro e w1 ⟨rfl, hk1⟩
      have HK := hide (hI.out.1.andNu hk1)
      clear IS hk1 x0 x1
      cases hB : isB q.h d.h q.X d.X with
      | true =>
        have HE : Hid (pl (Q.map Cv.o) q.o = some i) := hide (pl_at (by
          rw [List.getElem?_map, HC.out.1]
          have e := HC.out.2.2 (by simpa [isB] using hB)
          simp only [Option.map_some]
          exact congrArg some e.symm) hI.out.2)
        clear hB
        go_wp2
        go_ret
        exact ⟨by rw [HE.out]; rfl, HK.out⟩
      | false =>
        have HE : Hid ((Q.map Cv.o)[i]? ≠ some q.o) := hide (by
          rw [List.getElem?_map, HC.out.1]
          intro e
          simp only [Option.map_some, Option.some.injEq] at e
          have := HC.out.2.1 e.symm
          simp [isB, this] at hB)
        clear hB
        go_wp2
        refine ⟨⟨i + 1, by go_num, by omega, hide ⟨HK.out, fun k hk => ?_⟩⟩, by simp [intOf]; omega⟩
        by_cases e : k = i
        · subst e; exact HE.out
        · exact hI.out.2 k (by omega)
    · have hge : ¬ (i : Int) < (N : Int) := by omega
      obtain rfl : i = N := by omega
      have HE : Hid (pl (Q.map Cv.o) q.o = none) := hide (pl_none (fun k hk => hI.out.2 k (by rw [List.length_map, HQ.out.2.2] at hk; exact hk)))
      go_wp2
      go_ret
      exact ⟨by rw [HE.out]; rfl, hI.out.1⟩
set_option maxRecDepth 100000 in
set_option maxHeartbeats 2000000 in
theorem placeOf101 (w : World) (u : Value) (Q : List Cv) (q : Cv) (hQ : Cq w u Q) (hq : CvOk w q) (hN : Q.length ≤ 17) :
    Calls Try.prog 101 #[u, .agg #[.bool q.h, .slice q.a q.n q.c]] w fun e w' => e = .returned (.int .i64 (enc (pl (Q.map Cv.o) q.o))) ∧ Kp Nu w w' := by
  have k1 : Kp Nu w (w.alloc (.cells #[.bool q.h, .slice q.a q.n q.c] 64)) := Kp.alloc _ _ _
  have IX := index115 (w.alloc (.cells #[.bool q.h, .slice q.a q.n q.c] 64)) u Q q (hQ.nu k1) ⟨hq.1.nu k1, hq.2⟩ hN
  have HK := hide k1
  clear hQ hq hN k1
  go_enter Try.func101, Try.ntmps101
  go_wp2_with fail
  refine IX.mono ?_; rintro e w1 ⟨rfl, hk1⟩
  have HR := hide (HK.out.andNu hk1)
  clear IX hk1
  go_wp2
  go_ret
  exact ⟨rfl, HR.out⟩
end Go.Proofs.Ytcbonbeogdgogaa.Li
