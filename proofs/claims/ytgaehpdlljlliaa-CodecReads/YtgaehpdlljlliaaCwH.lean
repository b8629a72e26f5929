import Derived.Test.YtgaehpdlljlliaaCwG
import Derived.Test.YtgaehpdlljlliaaCrJ
namespace Go.Proofs.Ytgaehpdlljlliaa.Cd
open Go.RowKit
set_option linter.unusedVariables false

/-- both writers -/
structure Two (W w : World) (b pb : Nat) (lim err1 err2 : Int) (v1 v2 : Value) (xs1 xs2 : List Int) : Prop where
  wr : Wr w b lim err1 v1 xs1
  wg : Wg w pb true lim err2 v2 xs2
  ok1 : Ok lim xs1
  ok2 : Ok lim xs2
  o1 : OwnGe (pb + 1) v1
  o2 : OwnGe (pb + 1) v2
  ne : ∀ g, v1.ownBlock = some g → v2.ownBlock ≠ some g
  kp : Kp Nu W w
  hb : W.heap.size ≤ b
  hp : b < pb

variable {W w w' : World} {b pb : Nat} {lim err err1 err2 : Int} {v1 v2 : Value} {xs xs1 xs2 : List Int}
theorem Two.keeps (h : Two W w b pb lim err1 err2 v1 v2 xs1 xs2) (k : Kp Nu w w') : Two W w' b pb lim err1 err2 v1 v2 xs1 xs2 :=
  ⟨h.wr.keeps k (fun h => h) (fun _ _ h => h), h.wg.keeps k (fun h => h) (fun _ _ h => h), h.ok1, h.ok2, h.o1, h.o2, h.ne, h.kp.trans k (fun _ _ h => h), h.hb, h.hp⟩

theorem two_Lay (h : Two W w b pb lim err err v1 v2 xs xs) (s : Stp) (f0 : Fit W s) :
    Calls Try.prog 14 #[.pointer (some ⟨pb, 0, none⟩), .agg #[.int .i64 (th s).kind, .int .u64 (th s).N, .int .i64 (th s).I, .bool (th s).F, (th s).bv]] w fun e w' => e = .returned (.tuple #[]) ∧ ∃ v2', Two W w' b pb lim err (put lim err xs (tb (th s))).1 v1 v2' xs (put lim err xs (tb (th s))).2 ∧ Kp (fp pb v2) w w' := by
  refine (Lay_any h.wg h.ok2 (th s) (th_fit s (f0.kp h.kp)) (th_norm s f0)).mono ?_
  rintro e w' ⟨rfl, v2', hg, fr⟩
  have hp := h.hp
  have hbW := h.hb
  refine ⟨rfl, v2', ⟨h.wr.keeps fr.kp ?_ ?_, hg, h.ok1, h.ok2.put, h.o1, ?_, ?_, h.kp.trans fr.kp ?_, h.hb, h.hp⟩, fr.kp⟩
  · rintro (e | e)
    · omega
    · have := h.o2 b e.symm; omega
  · rintro g hg' (e | e)
    · have := h.o1 g hg'; omega
    · exact h.ne g hg' e.symm
  · intro g hg'
    rcases fr.lie with e | ⟨g', hg2, e⟩
    · exact h.o2 g (e ▸ hg')
    · rw [e] at hg'
      cases hg'
      have := h.wg.lt
      omega
  · intro g hg' e2
    rcases fr.lie with e | ⟨g', hg2, e⟩
    · exact h.ne g hg' (e ▸ e2)
    · rw [e] at e2
      cases e2
      have := (h.wr.own.lt _ hg').2
      omega
  · rintro i hi (e | e)
    · omega
    · have := h.o2 i e.symm; omega

theorem two_lay (s : Stp) (f0 : Fit W s) (hT : isT s.kind = true) (h : Two W w b pb lim err (put lim err xs (tb (th s))).1 v1 v2 xs (put lim err xs (tb (th s))).2) :
    Calls Try.prog 15 #[.pointer (some ⟨b, 0, none⟩), .agg #[.int .i64 (th s).kind, .int .u64 (th s).N, .int .i64 (th s).I, .bool (th s).F, (th s).bv]] w fun e w' => e = .returned (.bool true) ∧ ∃ (err' : Int) (v1' v2' : Value) (xs' : List Int), Two W w' b pb lim err' err' v1' v2' xs' xs' := by
  have hp := h.hp
  have hbW := h.hb
  have hsep : (th s).bs ≠ [] → ∀ g, at? (th s).bv = some g → ¬ fp b v1 g := by
    intro hne g hg hfp
    have hlt := src_lt (th_fit s f0).rd hne hg
    rcases hfp with e | e
    · omega
    · have := h.o1 g e.symm; omega
  have L := lay_any h.wr h.ok1 (th s) (th_fit s (f0.kp h.kp)) hsep
  have e : layS lim err xs (th s) = put lim err xs (tb (th s)) := by
    unfold layS
    rw [th_kind, hT, if_pos rfl]
  rw [e] at L
  refine L.mono ?_
  rintro e w' ⟨rfl, v1', hw, fr⟩
  refine ⟨rfl, _, v1', v2, _, ⟨hw, h.wg.keeps fr.kp ?_ ?_, h.ok2, h.ok2, ?_, h.o2, ?_, h.kp.trans fr.kp ?_, h.hb, h.hp⟩⟩
  · rintro (e | e)
    · omega
    · have := h.o1 pb e.symm; omega
  · rintro g hg' (e | e)
    · have := h.o2 g hg'; omega
    · exact h.ne g e.symm hg'
  · intro g hg'
    rcases fr.lie with e | ⟨g', hg2, e⟩
    · exact h.o1 g (e ▸ hg')
    · rw [e] at hg'
      cases hg'
      have := h.wg.lt
      omega
  · intro g hg' e2
    rcases fr.lie with e | ⟨g', hg2, e⟩
    · exact h.ne g (e ▸ hg') e2
    · rw [e] at hg'
      cases hg'
      have := (h.wg.own.lt _ e2).2
      omega
  · rintro i hi (e | e)
    · omega
    · have := h.o1 i e.symm; omega

theorem two_asked (h : Two W w b pb lim err err v1 v2 xs xs) (kind : Int) :
    Calls Try.prog 16 #[.pointer (some ⟨b, 0, none⟩), .pointer (some ⟨pb, 0, none⟩), .int .i64 kind] w fun e w' => e = .returned (.bool true) ∧ Two W w' b pb lim err err v1 v2 xs xs := by
  refine (asked_any h.wr h.wg h.ok1 kind).mono ?_
  rintro e w' ⟨rfl, k⟩
  exact ⟨rfl, h.keeps k⟩

/-- neither writer is there -/
structure Non (W w : World) (pb : Nat) (v2 : Value) : Prop where
  wg : Wg w pb false 0 0 v2 []
  o2 : OwnGe (pb + 1) v2
  kp : Kp Nu W w
  hp : W.heap.size ≤ pb
theorem Non.keeps (h : Non W w pb v2) (k : Kp Nu w w') : Non W w' pb v2 := ⟨h.wg.keeps k (fun h => h) (fun _ _ h => h), h.o2, h.kp.trans k (fun _ _ h => h), h.hp⟩
theorem non_Lay (h : Non W w pb v2) (s : Stp) (f0 : Fit W s) :
    Calls Try.prog 14 #[.pointer (some ⟨pb, 0, none⟩), .agg #[.int .i64 (th s).kind, .int .u64 (th s).N, .int .i64 (th s).I, .bool (th s).F, (th s).bv]] w fun e w' => e = .returned (.tuple #[]) ∧ ∃ v2', Non W w' pb v2' ∧ Kp (fp pb v2) w w' := by
  refine (Lay_any h.wg ⟨by omega, by omega, by simp⟩ (th s) (th_fit s (f0.kp h.kp)) (th_norm s f0)).mono ?_
  rintro e w' ⟨rfl, v2', hg, fr⟩
  have hp := h.hp
  refine ⟨rfl, v2', ⟨hg, ?_, h.kp.trans fr.kp ?_, h.hp⟩, fr.kp⟩
  · intro g hg'
    rcases fr.lie with e | ⟨g', hg2, e⟩
    · exact h.o2 g (e ▸ hg')
    · rw [e] at hg'
      cases hg'
      have := h.wg.lt
      omega
  · rintro i hi (e | e)
    · omega
    · have := h.o2 i e.symm; omega
theorem non_lay (s : Stp) (f0 : Fit W s) (h : Non W w pb v2) :
    Calls Try.prog 15 #[.pointer none, .agg #[.int .i64 (th s).kind, .int .u64 (th s).N, .int .i64 (th s).I, .bool (th s).F, (th s).bv]] w fun e w' => e = .returned (.bool true) ∧ ∃ v2', Non W w' pb v2' := by
  refine (lay_nil (th s) (th_fit s (f0.kp h.kp))).mono ?_
  rintro e w' ⟨rfl, k⟩
  exact ⟨rfl, v2, h.keeps k⟩
theorem non_asked (h : Non W w pb v2) (kind : Int) :
    Calls Try.prog 16 #[.pointer none, .pointer (some ⟨pb, 0, none⟩), .int .i64 kind] w fun e w' => e = .returned (.bool true) ∧ Non W w' pb v2 := by
  refine (asked_nil h.wg kind).mono ?_
  rintro e w' ⟨rfl, k⟩
  exact ⟨rfl, h.keeps k⟩

theorem fin_writes {K : Int} {N : Nat} {P : Prop} (h0 : 0 ≤ K) (h1 : K < 140737488351232) (hN : K.toNat < N) (hP : P) :
    (∃ K' : Int, 0 ≤ K' ∧ K' ≤ 140737488351232 ∧ Value.int .i64 (K + 1) = .int .i64 K' ∧ Hid (K'.toNat ≤ N) ∧ P) ∧ N - (intOf (.int .i64 (K + 1))).toNat < N - (intOf (.int .i64 K)).toNat := by
  have e : (K + 1).toNat = K.toNat + 1 := by omega
  refine ⟨⟨K + 1, by omega, by omega, rfl, ?_, hP⟩, ?_⟩
  · show _ ≤ _
    omega
  · show N - (K + 1).toNat < N - K.toNat
    omega
end Go.Proofs.Ytgaehpdlljlliaa.Cd
