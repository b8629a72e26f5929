import Derived.Test.YtchealdgncgjoaaRmA
namespace Go.Proofs.Ytchealdgncgjoaa.StI
open Go.RowKit Go.Proofs.Ytchealdgncgjoaa.St
set_option linter.unusedVariables false

/-- where the document's map finds a key -/
def plc (o : Int → Int → Int) (k : Int) (xs : List (Int × Int)) : Int := match xs[ahead o k xs xs.length]? with
  | some p => if o p.1 k = 0 then (ahead o k xs xs.length : Int) else -1
  | none => -1
section
variable {B : Nat} {w : World} {rb : Nat} {wh : Int} {vk vv : Value} {xs : List (Int × Int)} {o : Int → Int → Int}
set_option maxRecDepth 100000 in
set_option maxHeartbeats 1000000 in
theorem rat_any (h : Rm B w rb wh vk vv xs) (ho : Oc wh o) (k : Int) (hl : xs.length < 2 ^ 61) :
    Calls Try.prog 101 #[.pointer (some ⟨rb, 0, none⟩), .int .i64 k] w fun e w' => e = .returned (.int .i64 (plc o k xs)) ∧ Kp Nu w w' := by
  have RA := rrank_any h ho k hl
  obtain ⟨ad, cap, hv⟩ := own_slice h.ok
  obtain ⟨N, hN⟩ : ∃ N, xs.length = N := ⟨_, rfl⟩
  have hal := ahead_le (o := o) (k := k) (xs := xs) xs.length
  unfold plc
  rw [hN] at hv hal RA ⊢
  subst hv
  have HC : ∀ W, Kp Nu w W → W.cell? ⟨rb, 0, none⟩ = some (.int .i64 wh) ∧ W.cell? ⟨rb, 1, none⟩ = some (.slice ad N cap) := fun W q => by
    obtain ⟨d0, d1, _⟩ := cell3 (h.nu q).blk
    exact ⟨d0, d1⟩
  generalize ahead o k xs N = i at *
  by_cases hlt : i < N
  · obtain ⟨p, hp⟩ : ∃ p, xs[i]? = some p := ⟨_, List.getElem?_eq_getElem (by rw [hN]; exact hlt)⟩
    obtain ⟨r, cap', e, hc⟩ := rowI_at (i := i) (u := .int .i64 p.1) h.ok (by simp [kv]) (by simp [kv, hp])
    rw [hN] at e
    cases e
    have HS : ∀ W, Kp Nu w W → W.cell? ⟨rb, 0, none⟩ = some (.int .i64 wh) ∧ W.cell? ⟨rb, 1, none⟩ = some (.slice (some ⟨r, 0, none⟩) N cap) ∧ W.cell? ⟨r, i, none⟩ = some (.int .i64 p.1) := fun W q => by
      obtain ⟨x0, x1⟩ := HC W q
      obtain ⟨r', cap', e, hc⟩ := rowI_at (i := i) (u := .int .i64 p.1) (h.nu q).ok (by simp [kv]) (by simp [kv, hp])
      rw [hN] at e
      cases e
      exact ⟨x0, x1, hc⟩
    have OR := fun W => ho p.1 k W
    have hltI : (i : Int) < (N : Int) := by omega
    have hi0 : (0 : Int) ≤ (i : Int) := by omega
    rw [hp]
    simp only []
    by_cases h0 : o p.1 k = 0
    · rw [if_pos h0]
      rw [h0] at OR
      clear h ho hl hN hal hp HC hlt hc h0
      go_enter Try.func101, Try.ntmps101
      go_wp2_with (go_at_call 102; refine RA.mono ?_; rintro e w1 ⟨rfl, k1⟩; obtain ⟨x0, x1, x2⟩ := HS w1 k1)
      go_region_held (fun W => W.cell? ⟨rb, 0, none⟩ = some (.int .i64 wh) ∧ W.cell? ⟨rb, 1, none⟩ = some (.slice (some ⟨r, 0, none⟩) N cap) ∧ W.cell? ⟨r, i, none⟩ = some (.int .i64 p.1)) (first | (refine HS _ ?_; repeat (first | assumption | exact Kp.refl _ _ | apply Kp.drew)))
        (first | (go_at_call 67; refine (OR _).mono ?_; rintro e w' ⟨rfl, hw⟩; obtain rfl := hw.symm))
      go_wp2_with fail
      go_ret
      exact ⟨rfl, k1.drew⟩
    · rw [if_neg h0]
      have hb0 : (o p.1 k == 0) = false := by simpa using h0
      generalize o p.1 k = oo at *
      clear h ho hl hN hal hp HC hlt hc h0
      go_enter Try.func101, Try.ntmps101
      go_wp2_with (go_at_call 102; refine RA.mono ?_; rintro e w1 ⟨rfl, k1⟩; obtain ⟨x0, x1, x2⟩ := HS w1 k1)
      go_region_held (fun W => W.cell? ⟨rb, 0, none⟩ = some (.int .i64 wh) ∧ W.cell? ⟨rb, 1, none⟩ = some (.slice (some ⟨r, 0, none⟩) N cap) ∧ W.cell? ⟨r, i, none⟩ = some (.int .i64 p.1)) (first | (refine HS _ ?_; repeat (first | assumption | exact Kp.refl _ _ | apply Kp.drew)))
        (first | (go_at_call 67; refine (OR _).mono ?_; rintro e w' ⟨rfl, hw⟩; obtain rfl := hw.symm))
      go_wp2_with fail
      go_ret
      exact ⟨rfl, k1.drew⟩
  · have hnone : xs[i]? = none := List.getElem?_eq_none (by omega)
    rw [hnone]
    simp only []
    have hge : ¬ (i : Int) < (N : Int) := by omega
    clear h ho hl hN hal hlt hnone
    go_enter Try.func101, Try.ntmps101
    go_wp2_with (go_at_call 102; refine RA.mono ?_; rintro e w1 ⟨rfl, k1⟩; obtain ⟨x0, x1⟩ := HC w1 k1)
    go_ret
    exact ⟨rfl, k1⟩
end

/-- two rows of one's own, apart -/
structure Tw (B : Nat) (V : World) (vk : Value) (lk : List Value) (vv : Value) (lv : List Value) : Prop where
  ok : V.ownsRow B 3 1 vk lk.length lk
  ov : V.ownsRow B 3 1 vv lv.length lv
  ap : ∀ g, vk.ownBlock = some g → vv.ownBlock ≠ some g
section
variable {B : Nat} {V W : World} {vk vv v' : Value} {lk lv : List Value} {u : Value}
theorem Tw.nil (B : Nat) (V : World) : Tw B V (.slice none 0 0) [] (.slice none 0 0) [] := ⟨⟨rfl, .inl ⟨rfl, rfl⟩⟩, ⟨rfl, .inl ⟨rfl, rfl⟩⟩, fun g h => by cases h⟩
theorem Tw.nu (h : Tw B V vk lk vv lv) (k : Kp Nu V W) : Tw B W vk lk vv lv :=
  ⟨own_keep h.ok (fun g hg => k.block g (own_lt h.ok hg) (fun h => h)), own_keep h.ov (fun g hg => k.block g (own_lt h.ov hg) (fun h => h)), h.ap⟩
theorem Tw.stepk (h : Tw B V vk lk vv lv) (hown : W.ownsRow B 3 1 v' (lk.length + 1) (lk ++ [u])) (hg : V.grownBy W vk.ownBlock) (hob : v'.ownBlock = vk.ownBlock ∨ v'.ownBlock = some V.heap.size) : Tw B W v' (lk ++ [u]) vv lv := by
  refine ⟨by simpa using hown, own_keep h.ov (fun g e => hg.block g (own_lt h.ov e) (fun e2 => h.ap g e2.symm e)), fun g e e2 => ?_⟩
  rcases hob with h1 | h1
  · exact h.ap g (by rw [← h1]; exact e) e2
  · rw [h1] at e; cases e
    have := own_lt h.ov e2; omega
theorem Tw.stepv (h : Tw B V vk lk vv lv) (hown : W.ownsRow B 3 1 v' (lv.length + 1) (lv ++ [u])) (hg : V.grownBy W vv.ownBlock) (hob : v'.ownBlock = vv.ownBlock ∨ v'.ownBlock = some V.heap.size) : Tw B W vk lk v' (lv ++ [u]) := by
  refine ⟨own_keep h.ok (fun g e => hg.block g (own_lt h.ok e) (fun e2 => h.ap g e e2.symm)), by simpa using hown, fun g e e2 => ?_⟩
  rcases hob with h1 | h1
  · exact h.ap g e (by rw [← h1]; exact e2)
  · rw [h1] at e2; cases e2
    have := own_lt h.ok e; omega
theorem own_low {B : Nat} {n : Nat} {l : List Value} {v : Value} (h : V.ownsRow B 3 1 v n l) {g : Nat} (hg : v.ownBlock = some g) : B ≤ g := by
  rcases h.2 with ⟨rfl, h0⟩ | ⟨g', cap, cur, rfl, hb', hg', _⟩
  · cases hg
  · simp [Value.ownBlock] at hg; subst hg; exact hb'
theorem kp_row {w : World} {n : Nat} {l : List Value} {v : Value} (k : Kp Nu w V) (h : V.ownsRow w.heap.size 3 1 v n l) (hg : V.grownBy W v.ownBlock) : Kp Nu w W :=
  k.trans (Kp.of_grown hg) (fun i hi e => by have := own_low h (show v.ownBlock = some i from e.symm); omega)
end
end Go.Proofs.Ytchealdgncgjoaa.StI
