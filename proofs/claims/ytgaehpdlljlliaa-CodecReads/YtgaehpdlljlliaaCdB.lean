import Derived.Test.YtgaehpdlljlliaaCdA
import Derived.Maps.AppendAt
import Derived.OwnWalk
namespace Go.Proofs.Ytgaehpdlljlliaa.Cd
open Go.RowKit
set_option linter.unusedVariables false

theorem ownsRow_succ {w : World} {base e size n : Nat} {v : Value} {xs : List Value} (h : w.ownsRow base e size v (n + 1) xs) : ∃ g cap, v = .slice (some ⟨g, 0, none⟩) (n + 1) cap := by
  rcases h.2 with ⟨_, h0⟩ | ⟨g, cap, _, hv, _⟩
  · omega
  · exact ⟨g, cap, hv⟩

theorem hide {p : Prop} (h : p) : Hid p := h

/-- a row of bytes from v at w to v' at w' -/
structure Gr (v : Value) (w w' : World) (v' : Value) : Prop where
  kp : Kp (fun k => some k = v.ownBlock) w w'
  lie : v'.ownBlock = v.ownBlock ∨ ∃ g, w.heap.size ≤ g ∧ v'.ownBlock = some g
theorem Gr.refl (v : Value) (w : World) : Gr v w w v := ⟨Kp.refl _ _, .inl rfl⟩
theorem Gr.trans {v v' v'' : Value} {w w' w'' : World} (h : Gr v w w' v') (k : Gr v' w' w'' v'') : Gr v w w'' v'' := by
  refine ⟨h.kp.trans k.kp ?_, ?_⟩
  · rintro i hi e
    rcases h.lie with hl | ⟨g, hg, hl⟩
    · exact e.trans hl
    · rw [hl] at e; cases e; omega
  · rcases k.lie with kl | ⟨g, hg, kl⟩
    · rcases h.lie with hl | ⟨g, hg, hl⟩
      · exact .inl (kl.trans hl)
      · exact .inr ⟨g, hg, kl.trans hl⟩
    · exact .inr ⟨g, Nat.le_trans h.kp.size hg, kl⟩
/-- one append, behind the laying of its element -/
theorem Gr.app {v v' : Value} {w w' : World} {o : Obj} (h : (w.alloc o).grownBy w' v.ownBlock) (hv : ∀ g, v.ownBlock = some g → g < w.heap.size) (hat : v'.ownBlock = v.ownBlock ∨ v'.ownBlock = some (w.alloc o).heap.size) : Gr v w w' v' := by
  refine ⟨(Kp.alloc w o _).trans (Kp.of_grown h) (fun i _ e => e), ?_⟩
  rcases hat with e | e
  · exact .inl e
  · exact .inr ⟨_, by simp, e⟩

/-- the n lowest digits to the base 256, the highest first -/
def be : Nat → Nat → List Int
  | 0, _ => []
  | n + 1, x => ((x / 256 ^ n % 256 : Nat) : Int) :: be n x
theorem be_length (n x : Nat) : (be n x).length = n := by induction n with | zero => rfl | succ n ih => simp [be, ih]

theorem cs_append (a b : List Int) : cs (a ++ b) = cs a ++ cs b := by simp [cs]
theorem cs_length (a : List Int) : (cs a).length = a.length := by simp [cs]

theorem info5 : (Try.prog.info? 5).map (fun i => (i.zero, i.size, i.bytes)) = some (some (.int .u8 0), 1, 1) := by kernel_rfl

theorem byteAt (x k : Nat) : ((x : Int) / 2 ^ (8 * k)) % 256 = ((x / 256 ^ k % 256 : Nat) : Int) := by
  rw [show (2 : Int) ^ (8 * k) = ((256 ^ k : Nat) : Int) by rw [Int.pow_mul]; simp]
  omega

theorem ownLt {w : World} {v : Value} {n : Nat} {l : List Value} (h : w.ownsRow 0 5 1 v n l) : ∀ g, v.ownBlock = some g → g < w.heap.size := fun g hg => (h.lt g hg).2

set_option maxRecDepth 100000 in
set_option maxHeartbeats 1000000 in
theorem putNumber_any (w : World) (v : Value) (xs : List Int) (hown : w.ownsRow 0 5 1 v xs.length (cs xs)) (x size : Nat) (hx : x < 18446744073709551616) (hs : size ≤ 8) (hb : xs.length + size ≤ 16777216) :
    Calls Try.prog 77 #[v, .int .u64 (x : Int), .int .i64 (size : Int)] w fun e w' => ∃ v', e = .returned v' ∧ w'.ownsRow 0 5 1 v' (xs ++ be size x).length (cs (xs ++ be size x)) ∧ Gr v w w' v' := by
  obtain ⟨i0, hi, hz0, hz1, hz2⟩ := info_parts info5
  have HX := hide hx
  have HB := hide hb
  clear hx hb
  go_enter Try.func77, Try.ntmps77
  go_wp2
  go_loopw [0, 7] (fun u i wr => ∃ (k : Nat) (pre : List Int), k ≤ size ∧ i = .int .i64 ((k : Int) - 1) ∧ wr.ownsRow 0 5 1 u (xs ++ pre).length (cs (xs ++ pre)) ∧ Hid (pre ++ be k x = be size x) ∧ Gr v w wr u)
    (fun _ i _ => (intOf i + 1).toNat)
  case atStart => exact ⟨size, [], Nat.le_refl _, rfl, by simpa using hown, rfl, Gr.refl _ _⟩
  case round =>
    obtain ⟨k, pre, hk, rfl, hrow, hpre, hG⟩ := hrel
    match k, hk, hpre with
    | 0, hk, hpre =>
      have e : pre = be size x := by simpa [be] using hpre.out
      subst e
      go_wp2
      go_ret
      exact ⟨_, rfl, hrow, hG⟩
    | k + 1, hk, hpre =>
      have hlen : pre.length + (k + 1) = size := by
        have := congrArg List.length hpre.out
        rw [List.length_append, be_length, be_length] at this
        exact this
      have hk8 : k < 8 := by omega
      have hkI : (0 : Int) ≤ (k : Int) := by omega
      have hkI2 : (k : Int) < 8 := by omega
      have e1 : ((k + 1 : Nat) : Int) - 1 = (k : Int) := by omega
      rw [e1]
      have hbd := HB.out
      have hnn : (xs ++ pre).length + 1 ≤ 16777216 := by rw [List.length_append]; omega
      have HN := hide hnn
      clear hbd hnn
      have hlt := ownLt hrow
      go_wp2_with (at_builtin; refine wpList_append_own_at _ rfl _ _ 30 rfl 0 5 i0 _ 1 1 Try.underlying30 hi hz0 hz1 hz2 rfl (by decide) _ _ _ rfl (hrow.alloc _) ⟨wr.heap.size, 0, none⟩ 1 1 [.int .u8 ((x : Int) / 2 ^ (8 * k) % 256)] rfl rfl (cell_one_new _ _ _) (by simp [Value.oneCell']) ?q1 ?q2 ?q3 ?_; rotate_left 3; intro v' w1 hown' hgrow _ hat; obtain ⟨g', cap', rfl⟩ := ownsRow_succ hown')
      · refine ⟨⟨k, pre ++ [((x / 256 ^ k % 256 : Nat) : Int)], by omega, by go_num, ?_, ?_, hG.trans (Gr.app hgrow hlt hat)⟩, by simp [intOf]⟩
        · rw [byteAt] at hown'
          simpa [cs, Nat.add_assoc] using hown'
        · show (pre ++ _) ++ be k x = _
          rw [List.append_assoc]
          exact hpre.out
      · have := HN.out; unfold maxLen; omega
      · have := HN.out; omega
      · omega

/-- a varint, of fuel f -/
def vi : Nat → Nat → List Int
  | 0, _ => []
  | f + 1, x => if x < 128 then [(x : Int)] else ((x % 128 + 128 : Nat) : Int) :: vi f (x / 128)
def va (x : Nat) : List Int := vi 10 x
theorem vi_length_le (f x : Nat) : (vi f x).length ≤ f := by
  induction f generalizing x with
  | zero => simp [vi]
  | succ f ih => simp only [vi]; split <;> simp [ih]

theorem or128 (x : Nat) (h : x < 256) : bits .or .u8 (x : Int) 128 = ((x % 128 + 128 : Nat) : Int) := by
  have e := u8_or_nat x 128 h (by omega)
  have e2 : bits .or .u8 (x : Int) 128 = ((x ||| 128 : Nat) : Int) := e
  rw [e2]
  congr 1
  have : ∀ y : Fin 256, y.val ||| 128 = y.val % 128 + 128 := by decide +kernel
  exact this ⟨x, h⟩

theorem pow128 (f x : Nat) (h : x < 128 ^ (f + 1)) : x / 128 < 128 ^ f := by
  rw [Nat.pow_succ] at h
  exact Nat.div_lt_of_lt_mul (by rw [Nat.mul_comm]; exact h)

set_option maxRecDepth 100000 in
set_option maxHeartbeats 1000000 in
theorem putVarint_any (w : World) (v : Value) (xs : List Int) (hown : w.ownsRow 0 5 1 v xs.length (cs xs)) (x : Nat) (hx : x < 18446744073709551616) (hb : xs.length + (va x).length ≤ 16777216) :
    Calls Try.prog 72 #[v, .int .u64 (x : Int)] w fun e w' => ∃ v', e = .returned v' ∧ w'.ownsRow 0 5 1 v' (xs ++ va x).length (cs (xs ++ va x)) ∧ Gr v w w' v' := by
  obtain ⟨i0, hi, hz0, hz1, hz2⟩ := info_parts info5
  have HX : Hid (x < 128 ^ 10) := by
    have : (128 : Nat) ^ 10 = 1180591620717411303424 := by decide
    show x < 128 ^ 10
    omega
  have HB := hide hb
  have HX2 : Hid ((x : Int) < 18446744073709551616) := by
    show (x : Int) < _
    omega
  clear hb hx
  go_enter Try.func72, Try.ntmps72
  go_wp2
  go_loopw [0, 1] (fun u i wr => ∃ (f : Nat) (Y : Int) (pre : List Int), i = .int .u64 Y ∧ 0 ≤ Y ∧ wr.ownsRow 0 5 1 u (xs ++ pre).length (cs (xs ++ pre)) ∧ Hid (Y.toNat < 128 ^ (f + 1) ∧ pre ++ vi (f + 1) Y.toNat = va x) ∧ Gr v w wr u)
    (fun _ i _ => (intOf i).toNat)
  case atStart => exact ⟨9, x, [], rfl, by omega, by simpa using hown, ⟨HX.out, rfl⟩, Gr.refl _ _⟩
  case round =>
    clear HX HX2
    obtain ⟨f, Y, pre, rfl, hY, hrow, hpre, hG⟩ := hrel
    have hlt := ownLt hrow
    have hlen : (xs ++ pre).length + 1 ≤ 16777216 := by
      have h1 := congrArg List.length hpre.out.2
      have h2 : 1 ≤ (vi (f + 1) Y.toNat).length := by simp only [vi]; split <;> simp
      rw [List.length_append] at h1
      have := HB.out
      rw [List.length_append]
      omega
    have HN := hide hlen
    clear hlen
    by_cases h128 : Y < 128
    · have e1 : vi (f + 1) Y.toNat = [Y] := by
        have : Y.toNat < 128 := by omega
        simp [vi, this]
        omega
      have e2 := hpre.out.2
      rw [e1] at e2
      have HE := hide e2
      clear e1 e2 hpre
      go_wp2_with (at_builtin; refine wpList_append_own_at _ rfl _ _ 30 rfl 0 5 i0 _ 1 1 Try.underlying30 hi hz0 hz1 hz2 rfl (by decide) _ _ _ rfl (hrow.alloc _) ⟨wr.heap.size, 0, none⟩ 1 1 [.int .u8 Y] rfl rfl (cell_one_new _ _ _) (by simp [Value.oneCell']) ?q1 ?q2 ?q3 ?_; rotate_left 3; intro v' w1 hown' hgrow _ hat; obtain ⟨g', cap', rfl⟩ := ownsRow_succ hown')
      · go_ret
        refine ⟨_, rfl, ?_, hG.trans (Gr.app hgrow hlt hat)⟩
        rw [← HE.out]
        simpa [cs, Nat.add_assoc] using hown'
      · have := HN.out; unfold maxLen; omega
      · have := HN.out; omega
      · omega
    · have e1 : vi (f + 1) Y.toNat = ((Y.toNat % 128 + 128 : Nat) : Int) :: vi f (Y.toNat / 128) := by
        have : ¬ Y.toNat < 128 := by omega
        simp [vi, this]
      have e2 := hpre.out.2
      rw [e1] at e2
      have HE := hide e2
      have hp1 := pow128 f Y.toNat hpre.out.1
      obtain ⟨f, rfl⟩ : ∃ f', f = f' + 1 := by
        match f, hp1 with
        | 0, hp1 => exact absurd hp1 (by simp; omega)
        | f + 1, _ => exact ⟨f, rfl⟩
      have HP := hide hp1
      clear hp1 e1 e2 hpre
      have hor : bits .or .u8 (Y % 256) 128 = Y % 128 + 128 := by
        have := or128 (Y.toNat % 256) (by omega)
        rw [show ((Y.toNat % 256 : Nat) : Int) = Y % 256 by omega] at this
        rw [this]
        omega
      have hq : Y.toNat / 128 = (Y / 128).toNat := by omega
      have hz : ((Y.toNat % 128 + 128 : Nat) : Int) = Y % 128 + 128 := by omega
      have HQ := hide hq
      have HZ := hide hz
      clear hq hz
      go_wp2_with (at_builtin; refine wpList_append_own_at _ rfl _ _ 30 rfl 0 5 i0 _ 1 1 Try.underlying30 hi hz0 hz1 hz2 rfl (by decide) _ _ _ rfl (hrow.alloc _) ⟨wr.heap.size, 0, none⟩ 1 1 [.int .u8 (Y % 128 + 128)] rfl rfl (cell_one_new _ _ _) (by simp [Value.oneCell']) ?p1 ?p2 ?p3 ?_; rotate_left 3; intro v' w1 hown' hgrow _ hat; obtain ⟨g', cap', rfl⟩ := ownsRow_succ hown')
      · have hq := HQ.out
        have hz := HZ.out
        refine ⟨⟨f, Y / 128, pre ++ [Y % 128 + 128], rfl, by omega, ?_, ⟨?_, ?_⟩, hG.trans (Gr.app hgrow hlt hat)⟩, by simp [intOf]; omega⟩
        · simpa [cs, Nat.add_assoc] using hown'
        · rw [← hq]; exact HP.out
        · rw [List.append_assoc, ← hq, ← hz]
          exact HE.out
      all_goals first | omega | (have := HN.out; rw [List.length_append] at this; unfold maxLen; omega) | (have := HN.out; rw [List.length_append] at this; omega) | (have := HN.out; unfold maxLen; omega) | (have := HN.out; omega)
end Go.Proofs.Ytgaehpdlljlliaa.Cd
