import Derived.Test.YtchealdgncgjoaaClC
import Derived.Test.YtchealdgncgjoaaRnD
import Derived.Test.YtchealdgncgjoaaRnF
namespace Go.Proofs.Ytchealdgncgjoaa.StI
open Go.RowKit Go.Proofs.Ytchealdgncgjoaa.St Go.Shelf Go.Sort Go.Proofs.Ytchealdgncgjoaa.It
set_option linter.unusedVariables false
section
variable {B : Nat} {w w' : World} {rb mb : Nat} {vk vv : Value} {t : T (Int × Int)}
theorem Rm.lower {B' : Nat} {xs : List (Int × Int)} (h : Rm B' w rb 0 vk vv xs) (hB : B ≤ B') : Rm B w rb 0 vk vv xs := ⟨h.blk, own_lower hB h.ok, own_lower hB h.ov, h.apart⟩
/-- the document's Put, told by the program's: where its rows lie afterwards -/
theorem rput_TN (h : Rm B w rb 0 vk vv t.xs) (hs : Srt cmpI t.xs) (hB : B ≤ w.heap.size) (k v : Int) (hl : t.xs.length ≤ 17592186044000) :
    Calls Try.prog 36 #[.pointer (some ⟨rb, 0, none⟩), .int .i64 k, .int .i64 v] w fun e w' => e = .returned (.tuple #[ov (getT k t), .bool (T.fd (sd k) t).2]) ∧ (∃ vk' vv', Rm B w' rb 0 vk' vv' (putT k v t).xs ∧ (∀ g, vk'.ownBlock = some g → vk.ownBlock = some g ∨ w.heap.size ≤ g) ∧ (∀ g, vv'.ownBlock = some g → vv.ownBlock = some g ∨ w.heap.size ≤ g)) ∧ Kp (fun i => i = rb ∨ vv.ownBlock = some i) w w' := by
  cases hf : (T.fd (sd k) t).2 with
  | true =>
    obtain ⟨p, hp, hg⟩ := getT_some hf
    refine (rput_oldN h order_0 k v hl _ p (plc_yes hs hf) hp).mono ?_
    rintro e w' ⟨rfl, hr, hk⟩
    refine ⟨by rw [hg]; rfl, ⟨vk, vv, ?_, fun g h => .inl h, fun g h => .inl h⟩, hk.mono (fun _ _ h => .inr h)⟩
    rw [put_xs, if_pos hf]; exact hr
  | false =>
    refine (rput_newN h hB order_0 k v hl (plc_no hs hf)).mono ?_
    rintro e w' ⟨rfl, ⟨vk', vv', hr, hk⟩⟩
    have hg : getT k t = none := by unfold getT; rw [hf]; rfl
    refine ⟨by rw [hg]; rfl, ⟨vk', vv', ?_, fun g h => .inr (own_low hr.ok h), fun g h => .inr (own_low hr.ov h)⟩, hk.mono (fun _ _ h => .inl h)⟩
    rw [put_xs, hf]
    rw [ahead_fd hs k] at hr
    exact hr.lower hB
/-- the document's Delete, told by the program's: where its rows lie afterwards -/
theorem rdel_TN (h : Rm B w rb 0 vk vv t.xs) (hs : Srt cmpI t.xs) (hB : B ≤ w.heap.size) (k : Int) (hl : t.xs.length ≤ 17592186044000) :
    Calls Try.prog 42 #[.pointer (some ⟨rb, 0, none⟩), .int .i64 k] w fun e w' => e = .returned (.tuple #[ov (getT k t), .bool (T.fd (sd k) t).2]) ∧ (∃ vk' vv', Rm B w' rb 0 vk' vv' (delT k t).xs ∧ (∀ g, vk'.ownBlock = some g → vk.ownBlock = some g ∨ w.heap.size ≤ g) ∧ (∀ g, vv'.ownBlock = some g → vv.ownBlock = some g ∨ w.heap.size ≤ g)) ∧ Kp (fun i => i = rb ∨ vv.ownBlock = some i) w w' := by
  cases hf : (T.fd (sd k) t).2 with
  | true =>
    obtain ⟨p, hp, hg⟩ := getT_some hf
    refine (rdel_yesN h hB order_0 k hl _ p (plc_yes hs hf) hp).mono ?_
    rintro e w' ⟨rfl, vk', vv', hr, hk⟩
    refine ⟨by rw [hg]; rfl, ⟨vk', vv', ?_, fun g h => .inr (own_low hr.ok h), fun g h => .inr (own_low hr.ov h)⟩, hk.mono (fun _ _ h => .inl h)⟩
    rw [del_xs, if_pos hf]; exact hr.lower hB
  | false =>
    refine (rdel_noN h order_0 k hl (plc_no hs hf)).mono ?_
    rintro e w' ⟨rfl, hk⟩
    have hg : getT k t = none := by unfold getT; rw [hf]; rfl
    refine ⟨by rw [hg]; rfl, ⟨vk, vv, ?_, fun g h => .inl h, fun g h => .inl h⟩, hk.mono (fun _ _ h => h.elim)⟩
    rw [del_xs, hf]
    exact h.nu hk
end
/-- the document's rows, apart from the boxes bx -/
def Ro (X : World) (B rb : Nat) (bx : List Nat) (L : List (Int × Int)) : Prop := ∃ vk vv, Rm B X rb 0 vk vv L ∧ (∀ g, vk.ownBlock = some g → g ∉ bx) ∧ (∀ g, vv.ownBlock = some g → g ∉ bx)
/-- what stands while StoreLate goes on: bx the boxes of numbers -/
structure La (X : World) (bx : List Nat) (b1 br bM bR mb rb B BA BB B1 B2 : Nat) (more lo hi : Int) (t : T (Int × Int)) (L : List (Int × Int)) : Prop where
  g : X.heap[b1]? = some (.cells #[.int .i64 more] 3 (0, 0))
  r : X.heap[br]? = some (.cells #[.bool false] 4 (0, 0))
  m : X.heap[bM]? = some (.cells #[.pointer (some ⟨mb, 0, none⟩)] 22 (0, 0))
  d : X.heap[bR]? = some (.cells #[.pointer (some ⟨rb, 0, none⟩)] 48 (0, 0))
  xA : X.heap[BA]? = some (.cells #[.pointer (some ⟨mb, 0, none⟩)] 22 (0, 0))
  xB : X.heap[BB]? = some (.cells #[.pointer (some ⟨mb, 0, none⟩)] 22 (0, 0))
  x1 : X.heap[B1]? = some (.cells #[.int .i64 lo] 3 (0, 0))
  x2 : X.heap[B2]? = some (.cells #[.int .i64 hi] 3 (0, 0))
  mp : Mp X mb t
  ro : Ro X B rb bx L
  bl : ∀ b ∈ bx, b < X.heap.size
  i1 : b1 ∈ bx
  i2 : B1 ∈ bx
  i3 : B2 ∈ bx
  lo : B ≤ X.heap.size
section
variable {X Z : World} {bx : List Nat} {b1 br bM bR mb rb B BA BB B1 B2 : Nat} {more lo hi : Int} {t t' : T (Int × Int)} {L L' : List (Int × Int)}
theorem La.cc (h : La X bx b1 br bM bR mb rb B BA BB B1 B2 more lo hi t L) (k : Cc X Z) (hs : X.heap.size ≤ Z.heap.size) : La Z bx b1 br bM bR mb rb B BA BB B1 B2 more lo hi t L := by
  obtain ⟨vk, vv, h1, h2, h3⟩ := h.ro
  exact ⟨k _ _ _ _ h.g, k _ _ _ _ h.r, k _ _ _ _ h.m, k _ _ _ _ h.d, k _ _ _ _ h.xA, k _ _ _ _ h.xB, k _ _ _ _ h.x1, k _ _ _ _ h.x2, k.mp h.mp, ⟨vk, vv, k.rm h1, h2, h3⟩, fun b hb => Nat.lt_of_lt_of_le (h.bl b hb) hs, h.i1, h.i2, h.i3, Nat.le_trans h.lo hs⟩
/-- a write to the program's map -/
theorem La.put (h : La X bx b1 br bM bR mb rb B BA BB B1 B2 more lo hi t L) (hm : Mp Z mb t') (k : Kp (fun j => j = mb) X Z) : La Z bx b1 br bM bR mb rb B BA BB B1 B2 more lo hi t' L := by
  obtain ⟨a, h1, _⟩ := h.mp.ex
  have hn : ∀ {b : Nat} {c : Array Value} {ty : TypeId}, X.heap[b]? = some (.cells c ty (0, 0)) → ty ≠ 130 → Z.heap[b]? = some (.cells c ty (0, 0)) := fun {b c ty} hb ht => (k.block b (blk_lt hb) (fun e => by have e : b = mb := e; rw [e, h1] at hb; cases hb; exact ht rfl)).trans hb
  obtain ⟨vk, vv, r1, r2, r3⟩ := h.ro
  exact ⟨hn h.g (by decide), hn h.r (by decide), hn h.m (by decide), hn h.d (by decide), hn h.xA (by decide), hn h.xB (by decide), hn h.x1 (by decide), hn h.x2 (by decide), hm, ⟨vk, vv, r1.keepM h.mp k, r2, r3⟩, fun b hb => Nat.lt_of_lt_of_le (h.bl b hb) k.size, h.i1, h.i2, h.i3, Nat.le_trans h.lo k.size⟩
/-- cells that a write to the document's map leaves -/
theorem ro_keep {vk vv : Value} (hr : Rm B X rb 0 vk vv L) (hv : ∀ g, vv.ownBlock = some g → g ∉ bx) (k : Kp (fun i => i = rb ∨ vv.ownBlock = some i) X Z) {b : Nat} {c : Array Value} {ty : TypeId} (hb : X.heap[b]? = some (.cells c ty (0, 0))) (ht : ty ≠ 52) (ht2 : ty ≠ 3 ∨ b ∈ bx) : Z.heap[b]? = some (.cells c ty (0, 0)) :=
  (k.block b (blk_lt hb) (fun e => by
    rcases e with e | e
    · rw [e, hr.blk] at hb; cases hb; exact ht rfl
    · rcases ht2 with h | h
      · obtain ⟨cur, hc⟩ := own_obj hr.ov e
        rw [hb] at hc; cases hc; exact h rfl
      · exact hv b e h)).trans hb
/-- a write to the document's map -/
theorem La.rput {vk vv : Value} (h : La X bx b1 br bM bR mb rb B BA BB B1 B2 more lo hi t L) (hr : Rm B X rb 0 vk vv L) (hk : ∀ g, vk.ownBlock = some g → g ∉ bx) (hv : ∀ g, vv.ownBlock = some g → g ∉ bx)
    (hz : ∃ vk' vv', Rm B Z rb 0 vk' vv' L' ∧ (∀ g, vk'.ownBlock = some g → vk.ownBlock = some g ∨ X.heap.size ≤ g) ∧ (∀ g, vv'.ownBlock = some g → vv.ownBlock = some g ∨ X.heap.size ≤ g)) (k : Kp (fun i => i = rb ∨ vv.ownBlock = some i) X Z) : La Z bx b1 br bM bR mb rb B BA BB B1 B2 more lo hi t L' := by
  obtain ⟨vk', vv', z1, z2, z3⟩ := hz
  have hn : ∀ {b : Nat} {c : Array Value} {ty : TypeId}, X.heap[b]? = some (.cells c ty (0, 0)) → ty ≠ 52 → (ty ≠ 3 ∨ b ∈ bx) → Z.heap[b]? = some (.cells c ty (0, 0)) := fun hb t1 t2 => ro_keep hr hv k hb t1 t2
  refine ⟨hn h.g (by decide) (.inr h.i1), hn h.r (by decide) (.inl (by decide)), hn h.m (by decide) (.inl (by decide)), hn h.d (by decide) (.inl (by decide)), hn h.xA (by decide) (.inl (by decide)), hn h.xB (by decide) (.inl (by decide)), hn h.x1 (by decide) (.inr h.i2), hn h.x2 (by decide) (.inr h.i3), h.mp.keepR hr k, ⟨vk', vv', z1, fun g hg hb => ?_, fun g hg hb => ?_⟩, fun b hb => Nat.lt_of_lt_of_le (h.bl b hb) k.size, h.i1, h.i2, h.i3, Nat.le_trans h.lo k.size⟩
  · rcases z2 g hg with e | e
    · exact hk g e hb
    · have := h.bl g hb; omega
  · rcases z3 g hg with e | e
    · exact hv g e hb
    · have := h.bl g hb; omega
end
end Go.Proofs.Ytchealdgncgjoaa.StI
