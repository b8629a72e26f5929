import Derived.Test.YtgaehpdlljlliaaCdD
namespace Go.Proofs.Ytgaehpdlljlliaa.Cd
open Go.RowKit
set_option linter.unusedVariables false

/-- where a slice lies -/
def at? : Value → Option Nat
  | .slice (some a) _ _ => some a.block
  | _ => none

section
variable {w : World} {b : Nat} {lim err : Int} {v : Value} {xs : List Int}

theorem add_block (a : Addr) (j : Nat) : (a.add j).block = a.block := by
  unfold Addr.add
  first | rfl | (split <;> rfl)
theorem Rd.drew {u : Value} {ys : List Int} (h : Rd w u ys) : Rd w.drew u ys := h
theorem Rd.keeps {S : Nat → Prop} {w' : World} {u : Value} {ys : List Int} (h : Rd w u ys) (k : Kp S w w') (hS : ∀ g, at? u = some g → ¬ S g) : Rd w' u ys := by
  rcases h with ⟨rfl, rfl⟩ | ⟨a, cap, rfl, hc⟩
  · exact .inl ⟨rfl, rfl⟩
  · refine .inr ⟨a, cap, rfl, fun j x hj => ?_⟩
    have := hc j x hj
    exact (World.cell?_of_block (k.block _ (World.block_lt_of_cell? w _ this) (by rw [add_block]; exact hS _ rfl))).trans this

theorem newWriter_bad (w : World) (n : Int) (h : n < 0 ∨ n > 16777216) : Calls Try.prog 9 #[.int .i64 n] w fun e w' => e = .returned (.tuple #[.pointer none, .int .i64 2]) ∧ w' = w := by
  by_cases h1 : n < 0
  · go_enter Try.func9, Try.ntmps9
    go_wp2
    go_ret2
    exact ⟨rfl, rfl⟩
  · have h2 : n > 16777216 := by omega
    go_enter Try.func9, Try.ntmps9
    go_wp2
    go_ret2
    exact ⟨rfl, rfl⟩

theorem newWriter_ok (w : World) (n : Int) (h0 : 0 ≤ n) (h1 : n ≤ 16777216) : Calls Try.prog 9 #[.int .i64 n] w fun e w' => e = .returned (.tuple #[.pointer (some ⟨w.heap.size, 0, none⟩), .int .i64 0]) ∧ Wr w' w.heap.size n 0 (.slice none 0 0) [] ∧ Kp Nu w w' := by
  have h2 : ¬ n > 16777216 := by omega
  have h3 : ¬ n < 0 := by omega
  go_enter Try.func9, Try.ntmps9
  go_wp2
  go_ret2
  refine ⟨rfl, ⟨?_, World.ownsRow_nil _ _ _ _⟩, Kp.alloc _ _ _⟩
  exact heap_alloc_new w _

theorem out_err (h : Wr w b lim err v xs) (he : (err != 0) = true) : Calls Try.prog 27 #[.pointer (some ⟨b, 0, none⟩)] w fun e w' => e = .returned (.tuple #[.slice none 0 0, .int .i64 err]) ∧ w' = w := by
  go_enter Try.func27, Try.ntmps27
  go_wp2_with fail
  refine (err_any h).mono ?_; rintro e w' ⟨rfl, rfl⟩
  go_wp2
  go_ret2
  exact ⟨rfl, rfl⟩
theorem out_nil (w : World) : Calls Try.prog 27 #[.pointer none] w fun e w' => e = .returned (.tuple #[.slice none 0 0, .int .i64 1]) ∧ w' = w := by
  go_enter Try.func27, Try.ntmps27
  go_wp2_with fail
  refine (err_nil _).mono ?_; rintro e w' ⟨rfl, rfl⟩
  go_wp2
  go_ret2
  exact ⟨rfl, rfl⟩
theorem out_ok (h : Wr w b lim 0 v xs) (k : Ok lim xs) : Calls Try.prog 27 #[.pointer (some ⟨b, 0, none⟩)] w fun e w' => e = .returned (.tuple #[.slice (some ⟨w.heap.size, 0, none⟩) xs.length xs.length, .int .i64 0]) ∧ w'.heap[w.heap.size]? = some (.cells (cs xs).toArray 5 (0, 0)) ∧ Kp Nu w w' := by
  obtain ⟨c0, c1, c2⟩ := cell3 h.blk
  have O := own_any (Rd.of_own h.own rfl) (by have := k.hi; have := k.le; omega)
  go_enter Try.func27, Try.ntmps27
  go_wp2_with fail
  refine (err_any h).mono ?_; rintro e w' ⟨rfl, rfl⟩
  go_wp2_with fail
  refine O.mono ?_; rintro e w' ⟨rfl, ho, hk⟩
  go_wp2
  go_ret2
  exact ⟨rfl, ho, hk⟩

set_option maxRecDepth 100000 in
set_option maxHeartbeats 400000 in
theorem raw_any (h : Wr w b lim err v xs) (k : Ok lim xs) {u : Value} {ys : List Int} (hr : Rd w u ys) : Wrote 41 b u lim err v xs ys w := by
  obtain ⟨i0, hi, hz0, hz1, hz2⟩ := info_parts info5
  obtain ⟨c0, c1, c2⟩ := cell3 h.blk
  show Calls _ _ _ _ _
  by_cases he : err = 0
  · subst he
    by_cases hf : (ys.length : Int) ≤ lim - (xs.length : Int)
    · have F := fits_yes h (ys.length : Int) k.lo k.hi (by have := k.le; have := k.hi; omega) hf
      have e : put lim 0 xs ys = (0, xs ++ ys) := by simp only [put, if_pos hf, if_true]
      have HN : Hid (xs.length + ys.length ≤ 16777216) := by
        have := k.hi
        show _ ≤ _
        omega
      rw [e]
      clear hf e
      have hlt := ownLt h.drew.own
      rcases hr with ⟨rfl, rfl⟩ | ⟨a, cap, rfl, hc⟩
      · have hb2 := free3 h.drew.blk 1
        have hst := h.drew.store (Gr.refl _ _) h.drew.own
        have hrow := h.drew.own
        obtain ⟨ad', n', cap', rfl⟩ := own_slice' h.own
        rw [List.append_nil]
        go_enter Try.func41, Try.ntmps41
        go_wp2_with fail
        refine F.mono ?_; rintro e w' ⟨rfl, rfl⟩
        go_wp2_with (at_builtin; refine wpList_append_own_none rfl _ _ 30 rfl 0 5 i0 1 Try.underlying30 hi _ _ _ rfl hrow rfl ?_)
        go_end0
        exact ⟨rfl, _, hst.1, hst.2.drew⟩
      · have HC := hide hc
        clear hc
        have hw := h.drew
        have hrow := h.drew.own
        have hln := cs_length ys
        go_enter Try.func41, Try.ntmps41
        go_wp2_with fail
        refine F.mono ?_; rintro e w' ⟨rfl, rfl⟩
        go_wp2_with (at_builtin; refine wpList_append_own_at _ rfl _ _ 30 rfl 0 5 i0 _ 1 1 Try.underlying30 hi hz0 hz1 hz2 rfl (by decide) _ _ _ rfl hrow a ys.length cap (cs ys) rfl (by rw [cs_length]; omega) HC.out (cs_one ys) (by have := HN.out; unfold maxLen; omega) (by have := HN.out; omega) (Nat.zero_le _) ?_; intro v' w1 hown' hgrow _ hat; have hg : Gr v w.drew w1 v' := ⟨Kp.of_grown hgrow, hat.imp id (fun e => ⟨_, Nat.le_refl _, e⟩)⟩; have ho : w1.ownsRow 0 5 1 v' (xs ++ ys).length (cs (xs ++ ys)) := (by rw [cs_append, List.length_append]; exact hown'); obtain ⟨hb3, hb4, hb5⟩ := cell3 (h.drew.blk1 hg); have hb2 := free3 (h.drew.blk1 hg) 1; have hst := h.drew.store hg ho; clear hown' hgrow hat; obtain ⟨ad', n', cap', rfl⟩ := own_slice' ho)
        go_end0
        exact ⟨rfl, _, hst.1, hst.2.drew⟩
    · have F := fits_no h (ys.length : Int) k.lo k.hi (by have := k.le; have := k.hi; omega) (by omega)
      have e : put lim 0 xs ys = (20, xs) := by simp only [put, if_neg hf, if_true]
      rw [e]
      clear hf e
      obtain ⟨ad', cap', rfl⟩ := hr.slice
      go_enter Try.func41, Try.ntmps41
      go_wp2_with fail
      refine F.mono ?_; rintro e w' ⟨rfl, hw, hfr⟩
      go_wp2
      go_end0
      exact ⟨rfl, v, hw, hfr⟩
  · have F := fits_err h (by simpa using he) (ys.length : Int)
    have e : put lim err xs ys = (err, xs) := by simp only [put, if_neg he]
    rw [e]
    clear e
    obtain ⟨ad', cap', rfl⟩ := hr.slice
    go_enter Try.func41, Try.ntmps41
    go_wp2_with fail
    refine F.mono ?_; rintro e w' ⟨rfl, rfl⟩
    go_wp2
    go_end0
    exact ⟨rfl, v, h, Fr.refl _ _ _⟩

set_option maxRecDepth 100000 in
set_option maxHeartbeats 800000 in
theorem block_any (h : Wr w b lim err v xs) (k : Ok lim xs) {u : Value} {ys : List Int} (hr : Rd w u ys) (hy : ys.length ≤ 140737488355328) (hat : ∀ g, at? u = some g → some g ≠ v.ownBlock) : Wrote 42 b u lim err v xs (va ys.length ++ ys) w := by
  obtain ⟨i0, hi, hz0, hz1, hz2⟩ := info_parts info5
  obtain ⟨c0, c1, c2⟩ := cell3 h.blk
  have hva := va_le ys.length
  have S := fun w => varintSize_any ys.length (by omega) w
  have hl2 : (((va ys.length ++ ys).length : Nat) : Int) = ((va ys.length).length : Int) + (ys.length : Int) := by rw [List.length_append]; omega
  have hyI : (ys.length : Int) ≤ 140737488355328 := by omega
  have hvI : ((va ys.length).length : Int) ≤ 10 := by omega
  show Calls _ _ _ _ _
  by_cases he : err = 0
  · subst he
    by_cases hf : (((va ys.length ++ ys).length : Nat) : Int) ≤ lim - (xs.length : Int)
    · have F := fits_yes h (((va ys.length).length : Int) + (ys.length : Int)) k.lo k.hi (by have := k.le; have := k.hi; omega) (by rw [← hl2]; exact hf)
      have P := putVarint_any w.drew v xs h.drew.own ys.length (by omega) (by have := k.hi; omega)
      have e : put lim 0 xs (va ys.length ++ ys) = (0, (xs ++ va ys.length) ++ ys) := by simp only [put, if_pos hf, if_true, List.append_assoc]
      have HN : Hid (xs.length + (va ys.length).length + ys.length ≤ 16777216) := by
        have := k.hi
        show _ ≤ _
        omega
      rw [e]
      have HY := hide hyI
      have HV := hide hvI
      clear hf e hl2 hva hy
      generalize va ys.length = zs at *
      rcases hr with ⟨rfl, rfl⟩ | ⟨a, cap, rfl, hc⟩
      · rw [List.append_nil]
        go_enter Try.func42, Try.ntmps42
        go_wp2_with fail
        refine (S _).mono ?_; rintro e w' ⟨rfl, rfl⟩
        go_wp2_with fail
        refine F.mono ?_; rintro e w' ⟨rfl, rfl⟩
        go_wp2_with fail
        refine P.mono ?_; rintro e w1 ⟨v', rfl, ho, hg⟩
        obtain ⟨hb3, hb4, hb5⟩ := cell3 (h.drew.blk1 hg)
        have hb2 := free3 (h.drew.blk1 hg) 1
        have hst := h.drew.store hg ho
        obtain ⟨ad', n', cap', rfl⟩ := own_slice' ho
        go_wp2_with (at_builtin; refine wpList_append_own_none rfl _ _ 30 rfl 0 5 i0 1 Try.underlying30 hi _ _ _ rfl ho rfl ?_)
        go_end0
        exact ⟨rfl, _, hst.1, hst.2.drew⟩
      · have hR : Rd w.drew (.slice (some a) ys.length cap) ys := .inr ⟨a, cap, rfl, hc⟩
        clear hc
        go_enter Try.func42, Try.ntmps42
        go_wp2_with fail
        refine (S _).mono ?_; rintro e w' ⟨rfl, rfl⟩
        go_wp2_with fail
        refine F.mono ?_; rintro e w' ⟨rfl, rfl⟩
        go_wp2_with fail
        refine P.mono ?_; rintro e w1 ⟨v', rfl, ho, hg⟩
        have HC : Hid (∀ j x, (cs ys)[j]? = some x → w1.cell? (a.add j) = some x) := by
          rcases hR.keeps hg.kp hat with ⟨e, _⟩ | ⟨a', cap', e, hc⟩
          · cases e
          · cases e; exact hc
        obtain ⟨hb3, hb4, hb5⟩ := cell3 (h.drew.blk1 hg)
        have hb2 := free3 (h.drew.blk1 hg) 1
        obtain ⟨ad1, n1, cap1, rfl⟩ := own_slice' ho
        go_wp2_with (at_builtin; refine wpList_append_own_at _ rfl _ _ 30 rfl 0 5 i0 _ 1 1 Try.underlying30 hi hz0 hz1 hz2 rfl (by decide) _ _ _ rfl ho a ys.length cap (cs ys) rfl (by rw [cs_length]; omega) HC.out (cs_one ys) (by have := HN.out; rw [List.length_append]; unfold maxLen; omega) (by have := HN.out; rw [List.length_append]; omega) (Nat.zero_le _) ?_; intro v' w2 hown' hgrow _ hat2; have hg2 := hg.trans (⟨Kp.of_grown hgrow, hat2.imp id (fun e => ⟨_, Nat.le_refl _, e⟩)⟩ : Gr _ w1 w2 v'); have ho2 : w2.ownsRow 0 5 1 v' ((xs ++ zs) ++ ys).length (cs ((xs ++ zs) ++ ys)) := (by rw [cs_append, List.length_append]; exact hown'); obtain ⟨hb6, hb7, hb8⟩ := cell3 (h.drew.blk1 hg2); have hb9 := free3 (h.drew.blk1 hg2) 1; have hst := h.drew.store hg2 ho2; clear hown' hgrow hat2; obtain ⟨ad', n', cap', rfl⟩ := own_slice' ho2)
        go_end0
        exact ⟨rfl, _, hst.1, hst.2.drew⟩
    · have F := fits_no h (((va ys.length).length : Int) + (ys.length : Int)) k.lo k.hi (by have := k.le; have := k.hi; omega) (by omega)
      have e : put lim 0 xs (va ys.length ++ ys) = (20, xs) := by simp only [put, if_neg hf, if_true]
      rw [e]
      clear hf e hl2 hva hy
      generalize va ys.length = zs at *
      obtain ⟨ad', cap', rfl⟩ := hr.slice
      go_enter Try.func42, Try.ntmps42
      go_wp2_with fail
      refine (S _).mono ?_; rintro e w' ⟨rfl, rfl⟩
      go_wp2_with fail
      refine F.mono ?_; rintro e w' ⟨rfl, hw, hfr⟩
      go_wp2
      go_end0
      exact ⟨rfl, v, hw, hfr⟩
  · have F := fits_err h (by simpa using he) (((va ys.length).length : Int) + (ys.length : Int))
    have e : put lim err xs (va ys.length ++ ys) = (err, xs) := by simp only [put, if_neg he]
    rw [e]
    clear e hl2 hva hy
    generalize va ys.length = zs at *
    obtain ⟨ad', cap', rfl⟩ := hr.slice
    go_enter Try.func42, Try.ntmps42
    go_wp2_with fail
    refine (S _).mono ?_; rintro e w' ⟨rfl, rfl⟩
    go_wp2_with fail
    refine F.mono ?_; rintro e w' ⟨rfl, rfl⟩
    go_wp2
    go_end0
    exact ⟨rfl, v, h, Fr.refl _ _ _⟩
end
end Go.Proofs.Ytgaehpdlljlliaa.Cd
