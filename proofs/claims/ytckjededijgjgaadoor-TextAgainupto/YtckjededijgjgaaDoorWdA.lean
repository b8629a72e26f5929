import Derived.Test.YtckjededijgjgaaDoorEncB
import Derived.Test.YtckjededijgjgaaDoorNmC
namespace Go.Proofs.YtckjededijgjgaaDoor.Wd
open Go.RowKit
open Go.Proofs.YtckjededijgjgaaDoor.Pc (P4 encP pieces piecesFrom pcF encAt decode_cases encAt_len)
open Go.Proofs.YtckjededijgjgaaDoor.Enc (kindF Spans kindOf_any hide)
set_option linter.unusedVariables false

/-- how many columns a piece takes -/
def wF (x : P4) : Int := if x.2.2.2 = true then 1 else if kindF x.1 = 1 ∨ kindF x.1 = 2 then 0 else if kindF x.1 = 3 then 2 else 1
theorem wF_range (x : P4) : 0 ≤ wF x ∧ wF x ≤ 2 := by
  unfold wF
  split
  · omega
  · split
    · omega
    · split <;> omega
/-- how many columns pieces take -/
def wS : List P4 → Int
  | [] => 0
  | x :: t => wF x + wS t
theorem wS_snoc (l : List P4) (x : P4) : wS (l ++ [x]) = wS l + wF x := by
  induction l with
  | nil => simp [wS]
  | cons y t ih => rw [List.cons_append, wS, ih, wS]; omega
theorem wS_range (l : List P4) : 0 ≤ wS l ∧ wS l ≤ 2 * (l.length : Int) := by
  induction l with
  | nil => simp [wS]
  | cons y t ih =>
    have := wF_range y
    rw [wS, List.length_cons]
    omega

theorem pcF_range (s : ByteArray) (pos : Nat) : 0 ≤ (pcF s pos).1 ∧ (pcF s pos).1 ≤ 1114111 := by
  unfold Pc.pcF
  rcases decode_cases s pos with ⟨hd, _, _⟩ | ⟨r, k, hd, he⟩
  · rw [if_pos hd]
    have := (s.get! pos).toNat_lt
    simp only
    omega
  · split
    · have := (s.get! pos).toNat_lt
      simp only
      omega
    · rw [hd]
      have := encAt_len he
      simp only
      omega
theorem from_range (s : ByteArray) (f : Nat) : ∀ pos, ∀ x ∈ piecesFrom s f pos, 0 ≤ x.1 ∧ x.1 ≤ 1114111 := by
  induction f with
  | zero => intro pos x hx; simp [Pc.piecesFrom] at hx
  | succ f ih =>
    intro pos x hx
    rw [Pc.piecesFrom] at hx
    split at hx
    · rcases List.mem_cons.1 hx with rfl | hx
      · exact pcF_range s pos
      · exact ih _ x hx
    · simp at hx
theorem pieces_range (s : ByteArray) : ∀ x ∈ pieces s, 0 ≤ x.1 ∧ x.1 ≤ 1114111 := from_range s s.size 0
theorem from_len (s : ByteArray) (f : Nat) : ∀ pos, (piecesFrom s f pos).length ≤ f := by
  induction f with
  | zero => intro pos; simp [Pc.piecesFrom]
  | succ f ih =>
    intro pos
    rw [Pc.piecesFrom]
    split
    · rw [List.length_cons]; have := ih (pos + (Utf8.decode s pos).2); omega
    · simp
theorem pieces_len (s : ByteArray) : (pieces s).length ≤ s.size := from_len s s.size 0

theorem kindOf_all (r : Int) (w : World) (R off cap : Nat) (hS : Spans w R off cap) :
    Calls Tryd.prog 49 #[.int .i32 r] w fun e w' => e = .returned (.int .u8 (kindF r)) ∧ Below w.heap.size w w' := by
  by_cases h0 : r < 0
  · have E := hide (show kindF r = 1 by unfold Enc.kindF; rw [if_pos (.inl h0)])
    go_enter Tryd.func49, Tryd.ntmps49
    go_wp2
    go_ret
    rw [E.out]
    exact ⟨rfl, Below.refl _ _⟩
  · by_cases h1 : r > 1114111
    · have E := hide (show kindF r = 1 by unfold Enc.kindF; rw [if_pos (.inr (.inl h1))])
      go_enter Tryd.func49, Tryd.ntmps49
      go_wp2
      go_ret
      rw [E.out]
      exact ⟨rfl, Below.refl _ _⟩
    · exact kindOf_any r w R off cap hS (by omega) (by omega)

set_option maxHeartbeats 400000 in
theorem pieceWidth_any (x : P4) (w : World) (R off cap : Nat) (hS : Spans w R off cap) :
    Calls Tryd.prog 73 #[encP x] w fun e w' => e = .returned (.int .i64 (wF x)) ∧ Below w.heap.size w w' := by
  obtain ⟨r, at_, sz, br⟩ := x
  have hB := (Below.refl w.heap.size w).alloc (Nat.le_refl _) (.cells #[.int .i32 r, .int .i64 at_, .int .i64 sz, .bool br] 55)
  have K := kindOf_all r (w.alloc (.cells #[.int .i32 r, .int .i64 at_, .int .i64 sz, .bool br] 55)) R off cap (hS.below hB (Nat.le_refl _))
  have hw : wF (r, at_, sz, br) = if br = true then 1 else if kindF r = 1 ∨ kindF r = 2 then 0 else if kindF r = 3 then 2 else 1 := rfl
  rw [hw]
  generalize kindF r = kd at *
  clear hw
  show Calls Tryd.prog 73 #[.agg #[.int .i32 r, .int .i64 at_, .int .i64 sz, .bool br]] w _
  cases br
  · have F : ∀ w', Below (w.alloc (.cells #[.int .i32 r, .int .i64 at_, .int .i64 sz, .bool false] 55)).heap.size (w.alloc (.cells #[.int .i32 r, .int .i64 at_, .int .i64 sz, .bool false] 55)) w' → Below w.heap.size w w' := fun w' h => hB.trans (h.mono hB.size)
    rw [if_neg (by simp)]
    by_cases h1 : kd = 1
    · rw [if_pos (.inl h1)]
      subst h1
      go_enter Tryd.func73, Tryd.ntmps73
      go_wp2_with fail
      refine K.mono ?_; rintro e w' ⟨rfl, hb⟩
      go_wp2
      go_ret
      exact ⟨rfl, F _ hb⟩
    by_cases h2 : kd = 2
    · rw [if_pos (.inr h2)]
      subst h2
      go_enter Tryd.func73, Tryd.ntmps73
      go_wp2_with fail
      refine K.mono ?_; rintro e w' ⟨rfl, hb⟩
      go_wp2
      go_ret
      exact ⟨rfl, F _ hb⟩
    rw [if_neg (by omega)]
    have q1 : (kd == 1) = false := by simpa using h1
    have q2 : (kd == 2) = false := by simpa using h2
    by_cases h3 : kd = 3
    · rw [if_pos h3]
      subst h3
      go_enter Tryd.func73, Tryd.ntmps73
      go_wp2_with fail
      refine K.mono ?_; rintro e w' ⟨rfl, hb⟩
      go_wp2
      go_ret
      exact ⟨rfl, F _ hb⟩
    · rw [if_neg h3]
      have q3 : (kd == 3) = false := by simpa using h3
      go_enter Tryd.func73, Tryd.ntmps73
      go_wp2_with fail
      refine K.mono ?_; rintro e w' ⟨rfl, hb⟩
      go_wp2
      go_ret
      exact ⟨rfl, F _ hb⟩
  · rw [if_pos rfl]
    go_enter Tryd.func73, Tryd.ntmps73
    go_wp2
    go_ret
    exact ⟨rfl, hB⟩
end Go.Proofs.YtckjededijgjgaaDoor.Wd
