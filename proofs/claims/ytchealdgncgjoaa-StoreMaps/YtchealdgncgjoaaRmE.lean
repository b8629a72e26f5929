import Derived.Test.YtchealdgncgjoaaRmC
namespace Go.Proofs.Ytchealdgncgjoaa.StI
open Go.RowKit Go.Proofs.Ytchealdgncgjoaa.St Go.Shelf
set_option linter.unusedVariables false
set_option linter.unusedSimpArgs false
theorem own_set1 {w : World} {B n i : Nat} {r cap : Nat} {l : List Value} (h : w.ownsRow B 3 1 (.slice (some ⟨r, 0, none⟩) n cap) n l) (hi : i < n) (u : Value) : (w.setCell ⟨r, i, none⟩ u).ownsRow B 3 1 (.slice (some ⟨r, 0, none⟩) n cap) n (l.set i u) := by
  refine ⟨by simpa using h.1, ?_⟩
  rcases h.2 with ⟨e, h0⟩ | ⟨g, cap', cur, e, hb, hg, h1, h2, h3, h4⟩
  · cases e
  · cases e
    refine .inr ⟨r, cap, cur.setIfInBounds i u, rfl, hb, set3 hg i u, h1, h2, by simpa using h3, ?_⟩
    rw [Array.toList_setIfInBounds, ← h4, List.take_set]
theorem vvs_set (xs : List (Int × Int)) (i : Nat) (v : Int) : (vvs xs).set i (.int .i64 v) = vvs (xs.modify i (fun p => (p.1, v))) := by
  unfold vvs
  induction xs generalizing i with
  | nil => simp
  | cons a l ih => cases i <;> simp [ih]
theorem kv_mod (xs : List (Int × Int)) (i : Nat) (v : Int) : kv (xs.modify i (fun p => (p.1, v))) = kv xs := by
  unfold kv
  induction xs generalizing i with
  | nil => simp
  | cons a l ih => cases i <;> simp [ih]
section
variable {B : Nat} {w : World} {rb : Nat} {wh : Int} {vk vv : Value} {xs : List (Int × Int)} {o : Int → Int → Int}
set_option maxRecDepth 100000 in
set_option maxHeartbeats 1000000 in
theorem rput_old (h : Rm B w rb wh vk vv xs) (ho : Oc wh o) (k v : Int) (hl : xs.length ≤ 17592186043904) (i : Nat) (p : Int × Int) (hpl : plc o k xs = (i : Int)) (hp : xs[i]? = some p) :
    Calls Try.prog 36 #[.pointer (some ⟨rb, 0, none⟩), .int .i64 k, .int .i64 v] w fun e w' => e = .returned (.tuple #[.int .i64 p.2, .bool true]) ∧ Rm B w' rb wh vk vv (xs.modify i (fun p => (p.1, v))) ∧ Kp (fun j => vv.ownBlock = some j) w w' := by
  have AT := rat_any h ho k (by omega)
  rw [hpl] at AT
  obtain ⟨N, hN⟩ : ∃ N, xs.length = N := ⟨_, rfl⟩
  have hlt : i < N := by rw [← hN]; exact (List.getElem?_eq_some_iff.1 hp).1
  obtain ⟨rv, cv, ev, _⟩ := rowI_at (i := i) (u := .int .i64 p.2) h.ov (by simp [vvs]) (by simp [vvs, hp])
  rw [hN] at ev
  subst ev
  have HS : ∀ W, Kp Nu w W → W.cell? ⟨rb, 2, none⟩ = some (.slice (some ⟨rv, 0, none⟩) N cv) ∧ W.cell? ⟨rv, i, none⟩ = some (.int .i64 p.2) ∧ W.frozen? ⟨rv, i, none⟩ = false := fun W q => by
    obtain ⟨_, _, d2⟩ := cell3 (h.nu q).blk
    obtain ⟨rv', cv', ev', hv'⟩ := rowI_at (i := i) (u := .int .i64 p.2) (h.nu q).ov (by simp [vvs]) (by simp [vvs, hp])
    rw [hN] at ev'
    cases ev'
    obtain ⟨cur, hc⟩ := own_obj (h.nu q).ov (show (Value.slice (some ⟨rv, 0, none⟩) N cv).ownBlock = some rv from rfl)
    exact ⟨d2, hv', free3 hc i⟩
  have HF : Hid (∀ W, Kp Nu w W → Rm B (W.setCell ⟨rv, i, none⟩ (.int .i64 v)) rb wh vk (.slice (some ⟨rv, 0, none⟩) N cv) (xs.modify i (fun p => (p.1, v)))) := fun W q => by
    have hq := h.nu q
    have hrv : ∃ cur, W.heap[rv]? = some (.cells cur 3 (0, 0)) := own_obj hq.ov rfl
    obtain ⟨cur, hc⟩ := hrv
    have hne : rb ≠ rv := fun e => by have := hq.blk; rw [e, hc] at this; cases this
    refine ⟨(Below.heap_setCell _ ⟨rv, i, none⟩ _ rb hne).trans hq.blk, ?_, ?_, hq.apart⟩
    · rw [kv_mod]
      have := own_keep (w' := W.setCell ⟨rv, i, none⟩ (.int .i64 v)) hq.ok (fun g hg => Below.heap_setCell _ ⟨rv, i, none⟩ _ g (fun e => hq.apart g hg (by have e : g = rv := e; rw [e]; rfl)))
      simpa using this
    · have h2 := hq.ov
      rw [hN] at h2
      have := own_set1 h2 hlt (.int .i64 v)
      rw [vvs_set] at this
      simpa [hN] using this
  have hi0 : (0 : Int) ≤ (i : Int) := by omega
  have hiN : (i : Int) < (N : Int) := by omega
  clear h ho hl hpl hp hN hlt
  go_enter Try.func36, Try.ntmps36
  go_wp2_with (go_at_call 101; refine AT.mono ?_; rintro e w1 ⟨rfl, k1⟩; obtain ⟨x1, x2, x3⟩ := HS w1 k1)
  go_ret2
  exact ⟨rfl, HF.out w1 k1, (k1.mono (fun _ _ h => h.elim)).trans (Kp.setCell w1 ⟨rv, i, none⟩ _) (fun j _ e => by have e : j = rv := e; subst e; rfl)⟩
end
end Go.Proofs.Ytchealdgncgjoaa.StI
