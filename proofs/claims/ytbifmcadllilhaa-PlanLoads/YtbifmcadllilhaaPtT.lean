import Derived.Test.YtbifmcadllilhaaPtS
import Derived.Test.YtbifmcadllilhaaPtR
namespace Go.Proofs.Ytbifmcadllilhaa.Pn
open Go.RowKit
set_option linter.unusedVariables false
/-- a row of numbers of which some are told -/
structure Hq (w : World) (g N : Nat) (D : Nat → Prop) (f : Nat → Int) : Prop where
  mem : ∃ cur : Array Value, w.heap[g]? = some (.cells cur 3 (0, 0)) ∧ cur.size = N ∧ ∀ q, D q → cur[q]? = some (.int .i64 (f q))
theorem Hq.nu {w w' : World} {g N : Nat} {D : Nat → Prop} {f : Nat → Int} (h : Hq w g N D f) (k : Kp Nu w w') : Hq w' g N D f := by
  obtain ⟨cur, h1, h2, h3⟩ := h.mem
  exact ⟨cur, box_k h1 k, h2, h3⟩
theorem Hq.at_ {w : World} {g N q : Nat} {D : Nat → Prop} {f : Nat → Int} (h : Hq w g N D f) (hq : D q) : w.cell? ⟨g, q, none⟩ = some (.int .i64 (f q)) := by
  obtain ⟨cur, h1, h2, h3⟩ := h.mem
  exact cellAt h1 _ (h3 q hq)
theorem Hq.room {w : World} {g N q : Nat} {D : Nat → Prop} {f : Nat → Int} (h : Hq w g N D f) (hq : q < N) : ∃ v, w.cell? ⟨g, q, none⟩ = some v := by
  obtain ⟨cur, h1, h2, h3⟩ := h.mem
  exact ⟨_, cellAt h1 _ (Array.getElem?_eq_getElem (by omega))⟩
theorem Hq.free {w : World} {g N : Nat} {D : Nat → Prop} {f : Nat → Int} (h : Hq w g N D f) (o : Nat) : w.frozen? ⟨g, o, none⟩ = false := by
  obtain ⟨cur, h1, _⟩ := h.mem
  exact free3 h1 o
theorem Hq.lt {w : World} {g N : Nat} {D : Nat → Prop} {f : Nat → Int} (h : Hq w g N D f) : g < w.heap.size := by
  obtain ⟨cur, h1, _⟩ := h.mem
  exact blk_lt h1
theorem Hq.set {w : World} {g N i : Nat} {D D' : Nat → Prop} {f f' : Nat → Int} (h : Hq w g N D f) (hi : i < N) (hD : ∀ q, D' q → q = i ∨ D q) (hf : ∀ q, q ≠ i → D' q → f' q = f q) : Hq (w.setCell ⟨g, i, none⟩ (.int .i64 (f' i))) g N D' f' := by
  obtain ⟨cur, p1, p2, p3⟩ := h.mem
  refine ⟨_, set3 p1 _ _, by simp [p2], fun q hq => ?_⟩
  by_cases e : q = i
  · subst e
    rw [Array.getElem?_setIfInBounds_self_of_lt (by omega)]
  · rw [Array.getElem?_setIfInBounds_ne (fun e' => e e'.symm), p3 q ((hD q hq).resolve_left e), hf q e hq]
theorem Hq.own {w : World} {g N B : Nat} {D : Nat → Prop} {f : Nat → Int} (h : Hq w g N D f) (hD : ∀ q, q < N → D q) (hB : B ≤ g) (hM : N ≤ 16) (xs : List Value) (hx : xs = (List.range N).map (fun q => Value.int .i64 (f q))) : w.ownsRow B 3 1 (.slice (some ⟨g, 0, none⟩) N N) N xs := by
  subst hx
  obtain ⟨cur, p1, p2, p3⟩ := h.mem
  refine ⟨by simp, .inr ⟨g, N, cur, rfl, hB, p1, Nat.le_refl _, by unfold maxLen; omega, by omega, ?_⟩⟩
  apply List.ext_getElem?
  intro j
  by_cases hj : j < N
  · rw [List.getElem?_take_of_lt (by omega), Array.getElem?_toList, p3 j (hD j hj)]
    simp [hj]
  · rw [List.getElem?_take_eq_none (by omega), List.getElem?_eq_none (by simp; omega)]
theorem hq_made {w1 : World} {base g N : Nat} {xs : List Value} (f : Nat → Int) (h : w1.ownsRow base 3 1 (.slice (some ⟨g, 0, none⟩) N N) N xs) : Hq w1 g N (fun _ => False) f := by
  rcases h.2 with ⟨e, _⟩ | ⟨g', cap, cur, e, hb', hg, h1, h2, h3, h4⟩
  · cases e
  · cases e
    exact ⟨cur, hg, by omega, fun q hq => hq.elim⟩
set_option maxRecDepth 100000 in
set_option maxHeartbeats 2000000 in
theorem byLoad55 (w : World) (b : Addr) (cp : Nat) (o : List Int) (N : Nat) (hO : Ns w (.slice (some b) N cp) o) (hN : o.length = N) (hN1 : 1 ≤ N) (hN16 : N ≤ 16) (hb : b.block < w.heap.size) :
    Calls Try.prog 55 #[.slice (some b) N cp] w fun e w' => ∃ g s, e = .returned (.slice (some ⟨g, 0, none⟩) N N) ∧ Srt o s ∧ w'.ownsRow w.heap.size 3 1 (.slice (some ⟨g, 0, none⟩) N N) N (hcs s) ∧ Kp Nu w w' := by
  have HO := hide (And.intro hO (And.intro hN hb))
  have hNI : (N : Int) ≤ 16 := by omega
  have hbA := heap_new w (.cells #[.slice (some b) N cp] 22)
  have HB := hide hbA
  clear hO hN hb hbA
  obtain ⟨z0, hzi, hz0, hz1, hz2⟩ := info_parts info3z
  go_enter Try.func55, Try.ntmps55
  go_wp2_with (at_make; refine wpList_make_full _ rfl _ _ 22 rfl (w.heap.size + 1) 3 z0 _ 1 Try.underlying22 hzi hz0 hz1 _ _ _ _ N rfl rfl rfl rfl (by rw [hz2]; omega) (by unfold maxLen; omega) (by rw [World.size_alloc]; exact Nat.le_refl _) ?_; intro w4 hrow4 hgr4)
  have hq4 := hq_made (fun q => (q : Int)) hrow4
  rw [World.size_alloc] at hq4
  have k4 : Kp Nu (w.alloc (.cells #[.slice (some b) N cp] 22)) w4 := (Kp.of_grown hgr4).mono (fun _ _ e => by cases e)
  have H4 := hide (And.intro hq4 (And.intro k4 ((Kp.alloc w _ Nu).andNu k4)))
  clear hrow4 hgr4 hq4 k4
  go_wp2
  go_loopw [10] (fun iv wr => ∃ i : Nat, iv = .int .i64 (i : Int) ∧ i ≤ N ∧ Hid (Hq wr (w.heap.size + 1) N (fun q => q < i) (fun q => (q : Int)) ∧ Kp Nu w wr ∧ wr.heap[w.heap.size]? = some (.cells #[.slice (some b) N cp] 22 (0, 0)))) (fun iv _ => N - (intOf iv).toNat)
  case atStart => exact ⟨0, rfl, Nat.zero_le _, hide ⟨⟨by obtain ⟨cur, p1, p2, p3⟩ := H4.out.1.mem; exact ⟨cur, p1, p2, fun q hq => by omega⟩⟩, H4.out.2.2, box_k HB.out H4.out.2.1⟩⟩
  case round =>
    obtain ⟨i, rfl, hi, hI⟩ := hrel
    have hi0 : (0 : Int) ≤ (i : Int) := by omega
    by_cases hlt : i < N
    · have hltI : (i : Int) < (N : Int) := by omega
      obtain ⟨v, hv⟩ := hI.out.1.room hlt
      have hf := hI.out.1.free i
      have eti : (i : Int).toNat = i := by omega
      go_wp2
      refine ⟨⟨i + 1, by go_num, by omega, hide ⟨hI.out.1.set (f' := fun q => (q : Int)) hlt (fun q hq => by omega) (fun q _ _ => rfl), hI.out.2.1.andSet _ _ (.inl (Nat.le_succ _)), ?_⟩⟩, by simp [intOf]; omega⟩
      exact ((Kp.setCell wr ⟨w.heap.size + 1, i, none⟩ _).block _ (blk_lt hI.out.2.2) (fun e => by have e : w.heap.size = w.heap.size + 1 := e; omega)).trans hI.out.2.2
    · have hge : ¬ (i : Int) < (N : Int) := by omega
      obtain rfl : N = i := by omega
      have hown := hI.out.1.own (B := w.heap.size) (fun q hq => hq) (Nat.le_succ _) hN16 (hcs (List.range N)) rfl
      have SO := sort78 wr o N w.heap.size (w.heap.size + 1) N w.heap.size cp b HO.out.2.1 hN1 hN16 hown (cellAt hI.out.2.2 0 rfl) (fun j x hj => by
        obtain ⟨b', e', hc⟩ := (HO.out.1.nu hI.out.2.1).at_ hj
        cases e'
        exact hc) (by omega) (by have := HO.out.2.2; omega)
      have bb := cellAt hI.out.2.2 0 (v := .slice (some b) N cp) rfl
      clear hown
      go_wp2_with fail
      refine SO.mono ?_; rintro e w5 ⟨rfl, ⟨s, hs, hrow⟩, hgr⟩
      have HS := hide (And.intro hs (And.intro hrow (hI.out.2.1.trans (Kp.of_grown hgr) (fun x hx e => by simp at e; omega))))
      clear SO hs hrow hgr
      go_wp2
      go_ret
      exact ⟨_, s, rfl, HS.out.1, HS.out.2.1, HS.out.2.2⟩
end Go.Proofs.Ytbifmcadllilhaa.Pn
