import Derived.Test.YtahcdignedfanaaRpF
namespace Go.Proofs.Ytahcdignedfanaa.Rp
open Go.RowKit
open Go.Proofs.Ytahcdignedfanaa.Pc
set_option linter.unusedVariables false

theorem below_grown {w w' : World} (h : Below w.heap.size w w') : w.grownBy w' none := ⟨h.os, h.tape, h.output, h.size, fun k hk _ => h.block k hk⟩
theorem own_below {w w' : World} {base e size n : Nat} {v : Value} {xs : List Value} (h : w.ownsRow base e size v n xs) (hB : Below w.heap.size w w') : w'.ownsRow base e size v n xs := by
  refine h.kept (below_grown hB) ?_
  cases v.ownBlock with
  | none => exact .inl rfl
  | some k => exact .inr (by simp)
/-- the second row is not the first one's block -/
def Dis (r : Option Nat) (v : Value) : Prop := v.ownBlock = none ∨ v.ownBlock ≠ r
theorem dis_later {w W : World} {base e size n base' e' size' n' : Nat} {v v' : Value} {xs xs' : List Value} (h : w.ownsRow base e size v n xs) (h' : W.ownsRow base' e' size' v' n' xs') (hs : w.heap.size ≤ base') : Dis v.ownBlock v' ∧ Dis v'.ownBlock v := by
  have a := h.lt
  have b := h'.lt
  unfold Dis
  cases e1 : v.ownBlock with
  | none => exact ⟨by cases v'.ownBlock <;> simp, .inl rfl⟩
  | some i =>
    cases e2 : v'.ownBlock with
    | none => exact ⟨.inl rfl, .inr (by simp)⟩
    | some j =>
      have := a i e1
      have := b j e2
      exact ⟨.inr (by simp; omega), .inr (by simp; omega)⟩
theorem own_cell {w : World} {base e g cap n off : Nat} {xs : List Value} (h : w.ownsRow base e 4 (.slice (some ⟨g, 0, none⟩) n cap) n xs) (ho : off < n * 4) : (∃ u, w.cell? ⟨g, off, none⟩ = some u) ∧ w.frozen? ⟨g, off, none⟩ = false := by
  rcases h.2 with ⟨h, _⟩ | ⟨g', cap', cur, hv, hb, hg, hn, hm, hs, ht⟩
  · cases h
  · cases hv
    have hlt : off < cur.size := by omega
    exact ⟨⟨cur[off], by simp [World.cell?, hg, hlt]⟩, by simp [World.frozen?, hg]⟩

theorem own_form {w : World} {base e size n : Nat} {v : Value} {xs : List Value} (h : w.ownsRow base e size v n xs) : ∃ a0 cap, v = .slice a0 n cap := by
  rcases h.2 with ⟨rfl, rfl⟩ | ⟨g, cap, cur, rfl, _⟩
  · exact ⟨none, 0, rfl⟩
  · exact ⟨_, cap, rfl⟩
theorem pieces_call (s : ByteArray) (hs : Hid (s.size ≤ 1048576)) (w : World) :
    Calls Try.prog 7 #[.string s] w fun e W' => ∃ a0 cap, e = .returned (.slice a0 (pieces s).length cap) ∧ W'.ownsRow w.heap.size 25 4 (.slice a0 (pieces s).length cap) (pieces s).length (cellsL (pieces s)) ∧ Below w.heap.size w W' := by
  refine (callsIn_wide.1 (pieces_in 4 (by omega) s hs.out w)).mono ?_
  rintro e W' ⟨v, rfl, h, hB⟩
  obtain ⟨a0, cap, rfl⟩ := own_form h
  exact ⟨a0, cap, rfl, h, hB⟩
theorem refPieces_call (s : ByteArray) (hs : Hid (s.size ≤ 1048576)) (w : World) :
    Calls Try.prog 12 #[.string s] w fun e W' => ∃ a0 cap, e = .returned (.slice a0 (pieces s).length cap) ∧ W'.ownsRow w.heap.size 51 4 (.slice a0 (pieces s).length cap) (pieces s).length (cellsR (pieces s)) ∧ Below w.heap.size w W' := by
  refine (refPieces_any s hs.out w).mono ?_
  rintro e W' ⟨v, rfl, h, hB⟩
  obtain ⟨a0, cap, rfl⟩ := own_form h
  exact ⟨a0, cap, rfl, h, hB⟩

theorem dis_new {W : World} {base e size n j : Nat} {v : Value} {xs : List Value} (h : W.ownsRow base e size v n xs) (hj : W.heap.size ≤ j) : Dis (some j) v := by
  unfold Dis
  cases e1 : v.ownBlock with
  | none => exact .inl rfl
  | some i => have := h.lt i e1; exact .inr (by simp; omega)

theorem own_addr {w : World} {base e size n cap : Nat} {a0 : Option Addr} {xs : List Value} (h : w.ownsRow base e size (.slice a0 n cap) n xs) (hn : 0 < n) : ∃ g, a0 = some ⟨g, 0, none⟩ := by
  rcases h.2 with ⟨h, h0⟩ | ⟨g, cap, cur, h, _⟩
  · omega
  · cases h; exact ⟨g, rfl⟩

set_option maxRecDepth 100000 in
set_option maxHeartbeats 1000000 in
theorem pieces_walk (s : ByteArray) (hs : Hid (s.size ≤ 1048576)) (q : ByteArray) (hq : Hid (({ data := #[113] } ++ s : ByteArray) = q)) (hs2 : Hid (q.size ≤ 1048576)) (hsI : (s.size : Int) ≤ 1048576) (w : World) :
    Calls Try.prog 6 #[.string s] w fun e w' => e = .returned (.bool true) ∧ Below w.heap.size w w' := by
  have hln := hide (Nat.le_trans (pieces_len s) (Nat.le_trans hs.out (by decide : 1048576 ≤ 2097152)))
  have hln2 := hide (Nat.le_trans (pieces_len q) (Nat.le_trans hs2.out (by decide : 1048576 ≤ 2097152)))
  have hlI : ((pieces s).length : Int) ≤ 1048576 := by have := pieces_len s; omega
  obtain ⟨i0, hi, hz0, hz1, hz2⟩ := info_parts info25
  go_enter Try.func6, Try.ntmps6
  go_wp2_with fail
  refine (refPieces_call s hs _).mono ?_
  rintro e w1 ⟨aw, cw, rfl, hw, hB1⟩
  go_wp2_with fail
  refine (pieces_call s hs _).mono ?_
  rintro e w2 ⟨aa, ca, rfl, ha, hB2⟩
  have hw2 := own_below hw hB2
  have dwa := dis_later hw ha (Nat.le_refl _)
  have hB12 := hB1.trans (hB2.mono hB1.size)
  go_wp2_with fail
  refine (same_own _ hln.out (pieces_bd s) ha hw2).mono ?_
  rintro e w3 ⟨rfl, n3, rfl⟩
  have ha3 : (w2.drewN n3).ownsRow w1.heap.size 25 4 (.slice aa (pieces s).length ca) (pieces s).length (cellsL (pieces s)) := ha
  have hw3 : (w2.drewN n3).ownsRow w.heap.size 51 4 (.slice aw (pieces s).length cw) (pieces s).length (cellsR (pieces s)) := hw2
  have hB3 : Below w.heap.size w (w2.drewN n3) := below_drewN hB12 n3
  have hwle := hB1.size
  have z2 := hB2.size
  have z3 : (w2.drewN n3).heap.size = w2.heap.size := rfl
  clear ha hw2 hw hB12 hB2 hB1
  generalize w2.drewN n3 = W3 at ha3 hw3 hB3 z3 ⊢
  have Z3 := hide z3
  clear z3
  go_wp2_with fail
  rw [hq.out]
  refine (pieces_call q hs2 _).mono ?_
  rintro e w4 ⟨ax, cx, rfl, hx, hB4⟩
  have dax := dis_later ha3 hx (Nat.le_refl _)
  have dwx := dis_later hw3 hx (Nat.le_refl _)
  have ha4 := own_below ha3 hB4
  have hw4 := own_below hw3 hB4
  have hB5 := hB3.trans (hB4.mono hB3.size)
  have z4 := hB4.size
  clear ha3 hw3 hB3 hB4
  go_wp2_with fail
  refine (pieces_call s hs _).mono ?_
  rintro e w5 ⟨ab, cb, rfl, hb, hB6⟩
  have dab := dis_later ha4 hb (Nat.le_refl _)
  have dwb := dis_later hw4 hb (Nat.le_refl _)
  have dxb := dis_later hx hb (Nat.le_refl _)
  have ha5 := own_below ha4 hB6
  have hw5 := own_below hw4 hB6
  have hx5 := own_below hx hB6
  have hB7 := hB5.trans (hB6.mono hB5.size)
  have z5 := hB6.size
  clear ha4 hw4 hx hB5 hB6
  go_wp2_with fail
  rw [hq.out]
  refine (refPieces_call q hs2 _).mono ?_
  rintro e w6 ⟨ay, cy, rfl, hy, hB8⟩
  have day := dis_later ha5 hy (Nat.le_refl _)
  have dby := dis_later hb hy (Nat.le_refl _)
  have ha6 := own_below ha5 hB8
  have hw6 := own_below hw5 hB8
  have hx6 := own_below hx5 hB8
  have hb6 := own_below hb hB8
  have hB9 := hB7.trans (hB8.mono hB7.size)
  have z6 := hB8.size
  clear ha5 hw5 hx5 hb hB7 hB8
  go_wp2_with fail
  refine (same_own _ hln.out (pieces_bd s) ha6 hw6).mono ?_
  rintro e w7 ⟨rfl, n7, rfl⟩
  go_wp2_with fail
  refine (same_own _ hln.out (pieces_bd s) (show (w6.drewN n7).ownsRow _ 25 4 (.slice ab (pieces s).length cb) (pieces s).length (cellsL (pieces s)) from hb6) (show (w6.drewN n7).ownsRow _ 51 4 (.slice aw (pieces s).length cw) (pieces s).length (cellsR (pieces s)) from hw6)).mono ?_
  rintro e w8 ⟨rfl, n8, rfl⟩
  go_wp2_with fail
  refine (same_own _ hln2.out (pieces_bd q) (show (w6.drewN (n7 + n8)).ownsRow _ 25 4 (.slice ax (pieces q).length cx) (pieces q).length (cellsL (pieces q)) from hx6) (show (w6.drewN (n7 + n8)).ownsRow _ 51 4 (.slice ay (pieces q).length cy) (pieces q).length (cellsR (pieces q)) from hy)).mono ?_
  rintro e w9 ⟨rfl, n9, rfl⟩
  have ha9 : ((w6.drewN (n7 + n8)).drewN n9).ownsRow w1.heap.size 25 4 (.slice aa (pieces s).length ca) (pieces s).length (cellsL (pieces s)) := ha6
  have hb9 : ((w6.drewN (n7 + n8)).drewN n9).ownsRow w4.heap.size 25 4 (.slice ab (pieces s).length cb) (pieces s).length (cellsL (pieces s)) := hb6
  have hw9 : ((w6.drewN (n7 + n8)).drewN n9).ownsRow w.heap.size 51 4 (.slice aw (pieces s).length cw) (pieces s).length (cellsR (pieces s)) := hw6
  have hx9 : ((w6.drewN (n7 + n8)).drewN n9).ownsRow W3.heap.size 25 4 (.slice ax (pieces q).length cx) (pieces q).length (cellsL (pieces q)) := hx6
  have hy9 : ((w6.drewN (n7 + n8)).drewN n9).ownsRow w5.heap.size 51 4 (.slice ay (pieces q).length cy) (pieces q).length (cellsR (pieces q)) := hy
  have hB10 : Below w.heap.size w ((w6.drewN (n7 + n8)).drewN n9) := below_drewN (below_drewN hB9 _) _
  have z9 : ((w6.drewN (n7 + n8)).drewN n9).heap.size = w6.heap.size := rfl
  clear ha6 hb6 hw6 hx6 hy hB9
  generalize (w6.drewN (n7 + n8)).drewN n9 = W9 at ha9 hb9 hw9 hx9 hy9 hB10 z9 ⊢
  have z19 : w1.heap.size ≤ W9.heap.size := by have := Z3.out; omega
  have zw4 : w.heap.size ≤ w4.heap.size := by have := Z3.out; omega
  clear z9 z2 z4 z5 z6 Z3
  go_wp2_with fail
  go_loopw [9] (fun i wr => ∃ k : Nat, k ≤ (pieces s).length ∧ i = .int .i64 k ∧ (∃ xs, wr.ownsRow w1.heap.size 25 4 (.slice aa (pieces s).length ca) (pieces s).length xs) ∧ W9.grownBy wr (Value.slice aa (pieces s).length ca).ownBlock) (fun i _ => (pieces s).length - (intOf i).toNat)
  case atStart => exact ⟨0, by omega, rfl, ⟨_, ha9⟩, World.grownBy.refl _ _⟩
  case round =>
    obtain ⟨k, hk, rfl, ⟨xs, ho⟩, hg⟩ := hrel
    by_cases hlt : k < (pieces s).length
    · obtain ⟨g, hga⟩ := own_addr ho (by omega)
      subst hga
      obtain ⟨⟨u0, c0⟩, f0⟩ := own_cell ho (off := k * 4) (by omega)
      obtain ⟨⟨u1, c1⟩, f1⟩ := own_cell ho (off := k * 4 + 1) (by omega)
      obtain ⟨⟨u2, c2⟩, f2⟩ := own_cell ho (off := k * 4 + 2) (by omega)
      obtain ⟨⟨u3, c3⟩, f3⟩ := own_cell ho (off := k * 4 + 3) (by omega)
      have hltI : (k : Int) < ((pieces s).length : Int) := by omega
      obtain ⟨xs1, ho1⟩ := own_set (off := k * 4) (.int .i32 (-7)) ho
      obtain ⟨xs2, ho2⟩ := own_set (off := k * 4 + 1) (.int .i64 (-7)) ho1
      obtain ⟨xs3, ho3⟩ := own_set (off := k * 4 + 2) (.int .i64 (-7)) ho2
      obtain ⟨xs4, ho4⟩ := own_set (off := k * 4 + 3) (.bool false) ho3
      have hg4 := (((hg.trans (grown_set wr g (k * 4) (.int .i32 (-7)))).trans (grown_set _ g (k * 4 + 1) (.int .i64 (-7)))).trans (grown_set _ g (k * 4 + 2) (.int .i64 (-7)))).trans (grown_set _ g (k * 4 + 3) (.bool false))
      clear ho ho1 ho2 ho3 hg
      go_wp2
      exact ⟨⟨k + 1, by omega, by go_num, ⟨_, ho4⟩, hg4⟩, by simp [intOf]; omega⟩
    · have hge : decide ((k : Int) < ((pieces s).length : Int)) = false := by simp; omega
      have hge2 : decide (k < (pieces s).length) = false := by simp; omega
      have hw10 := hw9.kept hg dwa.2
      have hx10 := hx9.kept hg dax.1
      have hb10 := hb9.kept hg dab.1
      have hy10 := hy9.kept hg day.1
      have hB11 : Below w.heap.size w wr := hB10.grown hg hB10.size (fun j e => by have := (ha9.lt j e).1; have := hwle; omega)
      have z1r : w1.heap.size ≤ wr.heap.size := Nat.le_trans z19 hg.size
      clear hg hlt hk ha9 hb9 hw9 hx9 hy9 hB10 z19
      go_wp2_with fail
      generalize wr = W10 at ho hw10 hx10 hb10 hy10 hB11 z1r ⊢
      go_loopw [4, 10] (fun v j wr => ∃ (m : Nat) (a' : Option Addr) (c' : Nat) (xs : List Value), m ≤ 40 ∧ j = .int .i64 m ∧ v = .slice a' ((pieces s).length + m) c' ∧ wr.ownsRow w1.heap.size 25 4 (.slice a' ((pieces s).length + m) c') ((pieces s).length + m) xs ∧
        ((Value.slice a' ((pieces s).length + m) c').ownBlock = (Value.slice aa (pieces s).length ca).ownBlock ∨ ∃ b, (Value.slice a' ((pieces s).length + m) c').ownBlock = some b ∧ W10.heap.size ≤ b) ∧
        (wr.ownsRow w.heap.size 51 4 (.slice aw (pieces s).length cw) (pieces s).length (cellsR (pieces s)) ∧ wr.ownsRow W3.heap.size 25 4 (.slice ax (pieces q).length cx) (pieces q).length (cellsL (pieces q)) ∧ wr.ownsRow w4.heap.size 25 4 (.slice ab (pieces s).length cb) (pieces s).length (cellsL (pieces s)) ∧ wr.ownsRow w5.heap.size 51 4 (.slice ay (pieces q).length cy) (pieces q).length (cellsR (pieces q))) ∧
        Below w.heap.size w wr ∧ W10.heap.size ≤ wr.heap.size) (fun _ j _ => 40 - (intOf j).toNat)
      case atStart => exact ⟨0, aa, ca, _, by omega, rfl, rfl, ho, .inl rfl, ⟨hw10, hx10, hb10, hy10⟩, hB11, Nat.le_refl _⟩
      case round =>
        obtain ⟨m, a', c', xs', hm, rfl, rfl, ho', hblk, ⟨hw', hx', hb', hy'⟩, hB', hz'⟩ := hrel
        by_cases hlt : m < 40
        · have hltI : (m : Int) < 40 := by omega
          have hws := hwle
          go_wp2_with (at_builtin; refine wpList_append_own_at _ rfl _ _ 22 rfl w1.heap.size 25 i0 _ 4 32 Try.underlying22 hi hz0 hz1 hz2 rfl (by decide) _ _ _ rfl (ho'.alloc _) ⟨wr.heap.size, 0, none⟩ 1 1 (cells4 (-8, 0, 0, false)) rfl rfl (new4 wr (-8, 0, 0, false)) (one4 (-8, 0, 0, false)) ?q1 ?q2 ?q3 ?_; rotate_left 3; intro v' wn hown' hgrow _ hat; obtain ⟨g', cap', rfl⟩ := ownsRow_succ hown')
          · have dis : ∀ {base e size n : Nat} {u : Value} {ys : List Value}, W10.ownsRow base e size u n ys → Dis (Value.slice aa (pieces s).length ca).ownBlock u → Dis (Value.slice a' ((pieces s).length + m) c').ownBlock u := fun hW d => by
              rcases hblk with e | ⟨b, e, hb⟩
              · rw [e]; exact d
              · rw [e]; exact dis_new hW hb
            have hsz1 : wr.heap.size + 1 ≤ wn.heap.size := by have := hgrow.size; simp at this; exact this
            have hBn : Below w.heap.size w wn := (hB'.alloc hB'.size _).grown hgrow (by have := hB'.size; simp; omega) (fun j ej => by have := ((ho'.alloc (.cells #[.int .i32 (-8), .int .i64 0, .int .i64 0, .bool false] 25)).lt j ej).1; omega)
            go_roundw
            case rel =>
             exact ⟨m + 1, some ⟨g', 0, none⟩, cap', _, by omega, by go_num, rfl, hown', (by
                rcases hat with e | e
                · rcases hblk with e2 | ⟨b, e2, hb⟩
                  · exact .inl (e.trans e2)
                  · exact .inr ⟨b, e.trans e2, hb⟩
                · exact .inr ⟨_, e, by simp; omega⟩), ⟨(hw'.alloc _).kept hgrow (dis hw10 dwa.2), (hx'.alloc _).kept hgrow (dis hx10 dax.1), (hb'.alloc _).kept hgrow (dis hb10 dab.1), (hy'.alloc _).kept hgrow (dis hy10 day.1)⟩, hBn, by omega⟩
            case measure => simp [intOf]; omega
          · unfold maxLen; omega
          · omega
          · simp; omega
        · obtain rfl : m = 40 := by omega
          have hBw := hB'
          clear hblk hlt hm hb10 hw10 hx10 hy10 hB11 ho hz'
          go_wp2_with fail
          refine (same_own _ hln.out (pieces_bd s) hb' hw').mono ?_
          rintro e wp ⟨rfl, np, rfl⟩
          go_wp2_with fail
          refine (same_own _ hln2.out (pieces_bd q) (show (wr.drewN np).ownsRow _ 25 4 (.slice ax (pieces q).length cx) (pieces q).length (cellsL (pieces q)) from hx') (show (wr.drewN np).ownsRow _ 51 4 (.slice ay (pieces q).length cy) (pieces q).length (cellsR (pieces q)) from hy')).mono ?_
          rintro e wp ⟨rfl, nr, rfl⟩
          have hb12 : ((wr.drewN np).drewN nr).ownsRow w4.heap.size 25 4 (.slice ab (pieces s).length cb) (pieces s).length (cellsL (pieces s)) := hb'
          have hw12 : ((wr.drewN np).drewN nr).ownsRow w.heap.size 51 4 (.slice aw (pieces s).length cw) (pieces s).length (cellsR (pieces s)) := hw'
          have hx12 : ((wr.drewN np).drewN nr).ownsRow W3.heap.size 25 4 (.slice ax (pieces q).length cx) (pieces q).length (cellsL (pieces q)) := hx'
          have hy12 : ((wr.drewN np).drewN nr).ownsRow w5.heap.size 51 4 (.slice ay (pieces q).length cy) (pieces q).length (cellsR (pieces q)) := hy'
          have hB12 : Below w.heap.size w ((wr.drewN np).drewN nr) := below_drewN (below_drewN hB' _) _
          clear hb' hw' hx' hy' hB' hBw ho'
          generalize (wr.drewN np).drewN nr = W12 at hb12 hw12 hx12 hy12 hB12 ⊢
          go_wp2_with fail
          go_loopw [11] (fun i wr => ∃ k : Nat, k ≤ (pieces s).length ∧ i = .int .i64 k ∧ (∃ xs, wr.ownsRow w4.heap.size 25 4 (.slice ab (pieces s).length cb) (pieces s).length xs) ∧ W12.grownBy wr (Value.slice ab (pieces s).length cb).ownBlock) (fun i _ => (pieces s).length - (intOf i).toNat)
          case atStart => exact ⟨0, by omega, rfl, ⟨_, hb12⟩, World.grownBy.refl _ _⟩
          case round =>
            obtain ⟨j, hj, rfl, ⟨ys, hob⟩, hgb⟩ := hrel
            by_cases hlt : j < (pieces s).length
            · obtain ⟨g, hga⟩ := own_addr hob (by omega)
              subst hga
              obtain ⟨⟨u0, c0⟩, f0⟩ := own_cell hob (off := j * 4) (by omega)
              obtain ⟨⟨u1, c1⟩, f1⟩ := own_cell hob (off := j * 4 + 1) (by omega)
              obtain ⟨⟨u2, c2⟩, f2⟩ := own_cell hob (off := j * 4 + 2) (by omega)
              obtain ⟨⟨u3, c3⟩, f3⟩ := own_cell hob (off := j * 4 + 3) (by omega)
              have hltI : (j : Int) < ((pieces s).length : Int) := by omega
              obtain ⟨xs1, ho1⟩ := own_set (off := j * 4) (.int .i32 (-9)) hob
              obtain ⟨xs2, ho2⟩ := own_set (off := j * 4 + 1) (.int .i64 0) ho1
              obtain ⟨xs3, ho3⟩ := own_set (off := j * 4 + 2) (.int .i64 0) ho2
              obtain ⟨xs4, ho4⟩ := own_set (off := j * 4 + 3) (.bool false) ho3
              have hg4 := (((hgb.trans (grown_set wr g (j * 4) (.int .i32 (-9)))).trans (grown_set _ g (j * 4 + 1) (.int .i64 0))).trans (grown_set _ g (j * 4 + 2) (.int .i64 0))).trans (grown_set _ g (j * 4 + 3) (.bool false))
              clear hob ho1 ho2 ho3 hgb
              go_wp2
              exact ⟨⟨j + 1, by omega, by go_num, ⟨_, ho4⟩, hg4⟩, by simp [intOf]; omega⟩
            · have hgeb : decide ((j : Int) < ((pieces s).length : Int)) = false := by simp; omega
              have hgeb2 : decide (j < (pieces s).length) = false := by simp; omega
              have hw13 := hw12.kept hgb dwb.2
              have hx13 := hx12.kept hgb dxb.2
              have hy13 := hy12.kept hgb dby.1
              have hB13 : Below w.heap.size w wr := hB12.grown hgb hB12.size (fun j e => by have := (hb12.lt j e).1; have := zw4; omega)
              clear hgb hlt hj hb12 hw12 hx12 hy12 hB12
              go_wp2_with fail
              refine (pieces_call s hs _).mono ?_
              rintro e w14 ⟨ac, cc, rfl, hc, hB14⟩
              have hw14 := own_below hw13 hB14
              have hx14 := own_below hx13 hB14
              have hy14 := own_below hy13 hB14
              have hB15 := hB13.trans (hB14.mono hB13.size)
              clear hw13 hx13 hy13 hB13 hB14
              go_wp2_with fail
              refine (same_own _ hln.out (pieces_bd s) hc hw14).mono ?_
              rintro e wp ⟨rfl, n1, rfl⟩
              go_wp2_with fail
              refine (same_own _ hln2.out (pieces_bd q) (show (w14.drewN n1).ownsRow _ 25 4 (.slice ax (pieces q).length cx) (pieces q).length (cellsL (pieces q)) from hx14) (show (w14.drewN n1).ownsRow _ 51 4 (.slice ay (pieces q).length cy) (pieces q).length (cellsR (pieces q)) from hy14)).mono ?_
              rintro e wp ⟨rfl, n2, rfl⟩
              go_wp2
              go_ret
              exact ⟨rfl, below_drewN hB15 _⟩
end Go.Proofs.Ytahcdignedfanaa.Rp
