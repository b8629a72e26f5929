import Derived.Test.YtgaehpdlljlliaaRdK
namespace Go.Proofs.Ytgaehpdlljlliaa.Cd
open Go.RowKit
set_option linter.unusedVariables false

/-- both readers -/
structure Rtw (W w : World) (b g pb : Nat) (d : Value) (D : List Int) (A : Nat) (err : Int) : Prop where
  rr : ∃ v, Rr w b g err v (D.drop A)
  rg : Rg w pb true d D (A : Int) err
  cap : Cap d D
  byt : Byt D
  kp : Kp Nu W w
  hb : W.heap.size ≤ b
  hp : W.heap.size ≤ pb
  ne1 : b ≠ pb
  ne2 : g ≠ pb
  ne3 : at? d ≠ some b

variable {W w w' : World} {b g pb : Nat} {d : Value} {D : List Int} {A : Nat} {err : Int}
theorem Rtw.keeps (h : Rtw W w b g pb d D A err) (k : Kp Nu w w') : Rtw W w' b g pb d D A err := by
  obtain ⟨v, hr⟩ := h.rr
  exact ⟨⟨v, hr.keeps k (fun h => h) (fun h => h)⟩, h.rg.keeps k (fun h => h) (fun _ _ h => h), h.cap, h.byt, h.kp.trans k (fun _ _ h => h), h.hb, h.hp, h.ne1, h.ne2, h.ne3⟩

theorem Rtw.lt (h : Rtw W w b g pb d D A err) : b < w.heap.size ∧ pb < w.heap.size := by
  obtain ⟨v, hr⟩ := h.rr
  exact ⟨hr.lt, h.rg.lt⟩

/-- Fail in both -/
theorem two_fail (h : Rtw W w b g pb d D A err) (q : Int) : Calls Try.prog 51 #[.pointer (some ⟨b, 0, none⟩), .int .i64 q] w fun e w1 => e = .returned (.tuple #[]) ∧
    Calls Try.prog 52 #[.pointer (some ⟨pb, 0, none⟩), .int .i64 q] w1 fun e w2 => e = .returned (.tuple #[]) ∧ Rtw W w2 b g pb d D A (failed err q) := by
  obtain ⟨v, hr⟩ := h.rr
  refine (fail_any hr q).mono ?_
  rintro e w1 ⟨rfl, hr1, k1⟩
  refine ⟨rfl, ?_⟩
  have hg1 := h.rg.keeps k1 (fun e => h.ne1 (Eq.symm e)) (fun G hG e => h.ne3 (by have : G = b := e; rw [← this]; exact hG))
  refine (gfail_any hg1 q).mono ?_
  rintro e w2 ⟨rfl, hg2, k2⟩
  have hlW := h.kp.size
  exact ⟨rfl, ⟨⟨v, hr1.keeps k2 (fun e => h.ne1 e) (fun e => h.ne2 e)⟩, hg2, h.cap, h.byt, (h.kp.trans k1 (fun i hi e => by have : i = b := e; have := h.hb; omega)).trans k2 (fun i hi e => by have : i = pb := e; have := h.hp; omega), h.hb, h.hp, h.ne1, h.ne2, h.ne3⟩⟩

theorem tk_len (kind n err : Int) (xs : List Int) : (tk kind n err xs).bs.length ≤ xs.length := by
  have r8 : (rdR n err xs).1.length ≤ xs.length := by
    unfold rdR
    repeat' split
    all_goals first | exact Nat.zero_le _ | (rw [List.length_take]; omega)
  have r9 : (rdB n err xs).1.length ≤ xs.length := by
    unfold rdB
    repeat' split
    all_goals first | exact Nat.zero_le _ | (rw [List.length_take, List.length_drop]; omega)
  unfold tk
  repeat' split
  all_goals simp only [tkN, tkB]
  all_goals first | exact Nat.zero_le _ | exact r8 | exact r9

/-- a thing taken from both -/
theorem two_take (h : Rtw W w b g pb d D A err) (kind n : Int) (hT : isT kind = true) (hn : n ≤ 9223372036854775807) :
    Calls Try.prog 22 #[.pointer (some ⟨b, 0, none⟩), .int .i64 kind, .int .i64 n] w fun e w1 => ∃ N I F ad L cap, e = .returned (.agg #[.int .i64 kind, .int .u64 N, .int .i64 I, .bool F, .slice ad L cap]) ∧ Kp (iS b) w w1 ∧
      Calls Try.prog 54 #[.pointer (some ⟨pb, 0, none⟩), .int .i64 kind, .int .i64 n] w1 fun e w2 => ∃ kd ad2 L2 cap2, e = .returned (.agg #[.int .i64 kd, .int .u64 N, .int .i64 I, .bool F, .slice ad2 L2 cap2]) ∧ Kp (iS pb) w1 w2 ∧
        Calls Try.prog 53 #[.agg #[.int .i64 kind, .int .u64 N, .int .i64 I, .bool F, .slice ad L cap], .agg #[.int .i64 kd, .int .u64 N, .int .i64 I, .bool F, .slice ad2 L2 cap2]] w2 fun e w3 => e = .returned (.bool true) ∧ Kp Nu w2 w3 ∧ ∃ A' err', Rtw W w3 b g pb d D A' err' := by
  obtain ⟨v, hr⟩ := h.rr
  have hlW := h.kp.size
  have hplt := h.rg.lt
  have hDl := h.rg.len
  have hbs : (tk kind n err (D.drop A)).bs.length ≤ 16777216 := by
    have := tk_len kind n err (D.drop A)
    rw [List.length_drop] at this
    omega
  refine (take_any hr (h.byt.drop A) kind n hn).mono ?_
  rintro e w1 ⟨u, rfl, hu, hfr, hr1, k1⟩
  obtain ⟨ad, cap, hu2⟩ := hu.slice
  have hg1 := h.rg.keeps k1 (fun e => h.ne1 (Eq.symm e)) (fun G hG e => h.ne3 (by have : G = b := e; rw [← this]; exact hG))
  have hupb : at? u ≠ some pb := by
    intro e
    rcases hfr with e2 | ⟨G, hG, e2⟩
    · rw [e2] at e; cases e
    · rw [e2] at e; cases e; omega
  have kW1 := h.kp.trans k1 (fun i hi e => by have : i = b := e; have := h.hb; omega)
  refine ⟨_, _, _, ad, _, cap, by rw [hu2], k1, ?_⟩
  have FIN : ∀ w2 u' kd (A' : Nat), Rd w2 u' (tk kind n err (D.drop A)).bs → Rg w2 pb true d D (A' : Int) (tk kind n err (D.drop A)).err → (tk kind n err (D.drop A)).xs = D.drop A' → Kp (iS pb) w1 w2 →
      Calls Try.prog 53 #[.agg #[.int .i64 kind, .int .u64 (tk kind n err (D.drop A)).N, .int .i64 (tk kind n err (D.drop A)).I, .bool (tk kind n err (D.drop A)).F, u], .agg #[.int .i64 kd, .int .u64 (tk kind n err (D.drop A)).N, .int .i64 (tk kind n err (D.drop A)).I, .bool (tk kind n err (D.drop A)).F, u']] w2 fun e w3 => e = .returned (.bool true) ∧ Kp Nu w2 w3 ∧ ∃ A' err', Rtw W w3 b g pb d D A' err' := by
    intro w2 u' kd A' hu' hg2 hxs k2
    obtain ⟨v1, hr1⟩ := hr1
    have hr2 := hr1.keeps k2 (fun e => h.ne1 e) (fun e => h.ne2 e)
    rw [hxs] at hr2
    have T : Rtw W w2 b g pb d D A' (tk kind n err (D.drop A)).err := ⟨⟨v1, hr2⟩, hg2, h.cap, h.byt, kW1.trans k2 (fun i hi e => by have : i = pb := e; have := h.hp; omega), h.hb, h.hp, h.ne1, h.ne2, h.ne3⟩
    refine (alike_any kind kd _ _ _ (hu.keeps k2 (fun G hG e => hupb (by have : G = pb := e; rw [← this]; exact hG))) hu' hbs).mono ?_
    rintro e w3 ⟨rfl, k3⟩
    exact ⟨rfl, k3, A', _, T.keeps k3⟩
  by_cases he : err = 0
  · subst he
    refine (gTake_on hg1 h.cap h.byt kind n hT hn).mono ?_
    rintro e w2 ⟨kd, u', A', rfl, hu', hg2, hxs, k2⟩
    obtain ⟨ad2, cap2, hu3⟩ := hu'.slice
    refine ⟨kd, ad2, _, cap2, by rw [hu3], k2, ?_⟩
    rw [← hu2, ← hu3]
    exact FIN w2 u' kd A' hu' hg2 hxs k2
  · refine (gTake_off hg1 (.inr he) kind n).mono ?_
    rintro e w2 ⟨rfl, k2⟩
    have hs := tk_stay kind n err (D.drop A) he
    have F2 := FIN w2 (.slice none 0 0) 0 A (by rw [hs]; exact rd_nil _) (by rw [hs]; exact hg1.keeps k2 (fun h => h) (fun _ _ h => h)) (by rw [hs]) k2.ofNu
    refine ⟨0, none, 0, 0, by rw [hs], k2.ofNu, ?_⟩
    rw [← hu2]
    exact F2
end Go.Proofs.Ytgaehpdlljlliaa.Cd
