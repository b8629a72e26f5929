import Derived.Test.YtgaehpdlljlliaaCrH
namespace Go.Proofs.Ytgaehpdlljlliaa.Cd
open Go.RowKit
set_option linter.unusedVariables false

theorem len_rm (S : List Stp) : S.length ≤ rm S := by
  induction S with
  | nil => simp [rm]
  | cons s r ih => simp only [rm, rm1, List.length_cons]; omega

def OwnGe (n : Nat) (u : Value) : Prop := ∀ g, u.ownBlock = some g → n ≤ g

theorem Scr.at {w : World} {b off k : Nat} {S : List Stp} (hc : ∀ i s, S[i]? = some s → StpAt w b (off + i * 5) s) {w' : World} (hk : Kp Nu w w') (h : k < S.length) : StpAt w' b (off + k * 5) S[k] :=
  (hc k S[k] (List.getElem?_eq_getElem h)).below (Nat.le_refl _) hk.toBelow

theorem thing_at (s : Stp) (w : World) (h : Fit w s) : Calls Try.prog 13 #[.agg #[.int .i64 s.kind, .int .u64 s.N, .int .i64 s.I, .bool s.F, s.bv]] w fun e w' => e = .returned (th s).agg ∧ Kp Nu w w' := thing_any s w h

theorem Fit.kp {w w' : World} {s : Stp} (h : Fit w s) (k : Kp Nu w w') : Fit w' s := h.below (Nat.le_refl _) k.toBelow

/-- one step of a writer that has room -/
theorem lay_fits {w W : World} {b : Nat} {v : Value} {xs : List Int} (s : Stp) (h : Wr w b 16777216 0 v xs) (f0 : Fit W s) (kW : Kp Nu W w) (hb : W.heap.size ≤ b) (hv : OwnGe W.heap.size v) (hroom : xs.length + rm1 s ≤ 16777216) :
    Calls Try.prog 15 #[.pointer (some ⟨b, 0, none⟩), (th s).agg] w fun e w' => e = .returned (.bool true) ∧ ∃ v', Wr w' b 16777216 0 v' (xs ++ (if isT s.kind then tb (th s) else [])) ∧ OwnGe W.heap.size v' ∧ Kp Nu W w' := by
  have ft := th_fit s (f0.kp kW)
  have hsep : (th s).bs ≠ [] → ∀ g, at? (th s).bv = some g → ¬ fp b v g := by
    intro hne g hg hfp
    have ft0 := th_fit s f0
    rcases ft0.rd with ⟨_, e⟩ | ⟨a, cap, e, hc⟩
    · exact hne e
    · rw [e] at hg
      simp only [at?, Option.some.injEq] at hg
      have hlt : g < W.heap.size := by
        have h0 : 0 < (th s).bs.length := by
          rcases Nat.eq_zero_or_pos (th s).bs.length with h0 | h0
          · exact absurd (List.eq_nil_of_length_eq_zero h0) hne
          · exact h0
        have := World.block_lt_of_cell? W _ (hc 0 (.int .u8 (th s).bs[0]) (by simp [cs]))
        rw [add_block] at this
        omega
      rcases hfp with e | e
      · omega
      · have := hv g e.symm
        omega
  have hl := tb_room s
  have L := lay_any h ⟨by omega, by omega, by omega⟩ (th s) ft hsep
  have e : layS 16777216 0 xs (th s) = (0, xs ++ (if isT s.kind then tb (th s) else [])) := by
    unfold layS
    rw [th_kind]
    split
    · rw [put, if_pos rfl, if_pos (by omega)]
    · rw [List.append_nil]
  rw [e] at L
  refine L.mono ?_
  rintro e w' ⟨rfl, v', hw, fr⟩
  refine ⟨rfl, v', hw, ?_, kW.trans fr.kp ?_⟩
  · intro g hg
    rcases fr.lie with e | ⟨g', hg', e⟩
    · exact hv g (e ▸ hg)
    · rw [e] at hg
      cases hg
      exact Nat.le_trans kW.size hg'
  · rintro i hi (e | e)
    · omega
    · have := hv i e.symm
      omega

set_option maxHeartbeats 1000000 in
theorem written_any {w : World} {v : Value} {S : List Stp} (h : Scr w v S) (hr : rm S ≤ 16777216) : Calls Try.prog 30 #[v] w fun e w' => ∃ G, e = .returned (.tuple #[.slice (some ⟨G, 0, none⟩) (wb S).length (wb S).length, .bool true]) ∧ w.heap.size ≤ G ∧ w'.heap[G]? = some (.cells (cs (wb S)).toArray 5 (0, 0)) ∧ Kp Nu w w' := by
  have NW := newWriter_ok w 16777216 (by omega) (by omega)
  have HR := hide hr
  clear hr
  obtain ⟨ad, cap, hv⟩ := h.slice
  subst hv
  have HS := hide h
  clear h
  obtain ⟨N, hN⟩ : ∃ N, S.length = N := ⟨_, rfl⟩
  have HN := hide hN
  rw [hN] at HS ⊢
  clear hN
  go_enter Try.func30, Try.ntmps30
  go_wp2_with fail
  refine NW.mono ?_; rintro e w1 ⟨rfl, hw1, hk1⟩
  have nm := num_any 0 w1
  go_wp2_with fail
  refine nm.mono ?_; rintro e w2 ⟨rfl, rfl⟩
  clear nm NW
  go_wp2
  go_loopw [6] (fun i wr => ∃ k : Nat, k ≤ N ∧ i = .int .i64 (k : Int) ∧ ∃ u : Value, Wr wr w.heap.size 16777216 0 u (wb (S.take k)) ∧ OwnGe w.heap.size u ∧ Kp Nu w wr) (fun i _ => N - (intOf i).toNat)
  case atStart => exact ⟨0, by omega, rfl, .slice none 0 0, by simpa [wb] using hw1, (fun g hg => by cases hg), hk1⟩
  case round =>
    obtain ⟨k, hk, rfl, u, hw, hu, hkp⟩ := hrel
    clear hw1 hk1
    by_cases hlt : k < N
    · rcases HS.out with ⟨e, e2⟩ | ⟨b, off, cap', e, hc⟩
      · have := HN.out
        subst e2
        simp at this
        omega
      simp only [Value.slice.injEq] at e
      obtain ⟨e1, e2, e3⟩ := e
      clear e2
      subst e1 e3
      have hkS : k < S.length := by rw [HN.out]; exact hlt
      have hat := Scr.at hc hkp hkS
      have hfit := (hc k S[k] (List.getElem?_eq_getElem hkS)).fit
      have hwt := wb_take hkS
      have hrt := rm_take hkS
      have hrl := rm_take_le S (k + 1)
      have hwl := wb_room (S.take k)
      obtain ⟨c0, c1, c2, c3, c4, hf⟩ := hat
      have hroom : (wb (S.take k)).length + rm1 S[k] ≤ 16777216 := by have := HR.out; omega
      have TH := thing_at S[k] wr hf
      have LY := fun w' (k' : Kp Nu wr w') => lay_fits S[k] (hw.keeps k' (fun h => h) (fun _ _ h => h)) hfit (hkp.trans k' (fun _ _ h => h)) (Nat.le_refl _) hu hroom
      rw [← hwt] at LY
      obtain ⟨ad', cp', hbv⟩ := hf.rd.slice
      rw [hbv] at c4 TH
      generalize S[k] = s at *
      generalize s.bs.length = L at *
      have hltI : (k : Int) < (N : Int) := by omega
      have hk0 : (0 : Int) ≤ (k : Int) := by omega
      clear hroom hrl hrt hwl hwt hf hfit hw hu hkp hc
      have hkN : (k : Int) < 16777216 := by have := HR.out; have := HN.out; have := len_rm S; omega
      go_wp2_with fail
      refine TH.mono ?_; rintro e w3 ⟨rfl, hk3⟩
      go_wp2_with fail
      refine (LY _ hk3).mono ?_; rintro e w4 ⟨rfl, hr4⟩
      go_wp2
      exact ⟨⟨k + 1, by omega, by go_num, hr4⟩, by simp [intOf]; omega⟩
    · have hke : k = N := by omega
      subst hke
      rw [List.take_of_length_le (by rw [HN.out]; exact Nat.le_refl _)] at hw
      have hlen := wb_room S
      have O := out_ok hw ⟨by omega, by omega, by have := HR.out; omega⟩
      have nm := fun w => num_any 0 w
      clear hlen
      go_wp2_with fail
      refine O.mono ?_; rintro e w5 ⟨rfl, hh, hk5⟩
      go_wp2_with fail
      refine (nm _).mono ?_; rintro e w6 ⟨rfl, rfl⟩
      go_wp2
      go_ret2
      exact ⟨_, rfl, hkp.size, hh, hkp.trans hk5 (fun _ _ h => h)⟩
end Go.Proofs.Ytgaehpdlljlliaa.Cd
