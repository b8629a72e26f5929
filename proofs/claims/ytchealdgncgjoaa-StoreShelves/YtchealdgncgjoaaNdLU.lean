import Derived.Test.YtchealdgncgjoaaNdEU
import Derived.Test.YtchealdgncgjoaaNdFU
import Derived.Test.YtchealdgncgjoaaNdGU
import Derived.Test.YtchealdgncgjoaaNdHU
import Derived.Test.YtchealdgncgjoaaNdIU
namespace Go.Proofs.Ytchealdgncgjoaa.StU
open Go.RowKit Go.Proofs.Ytchealdgncgjoaa.St
set_option linter.unusedVariables false

theorem balanced_any {w : World} {l r : T (Int × Sv)} {p : Int × Sv} {a al ar : Option Addr} (hn : Nd w p a) (hl : Tr w l al) (hr : Tr w r ar) (hs : l.sz + r.sz < 2 ^ 62) (h1 : l.ht ≤ r.ht + 2) (h2 : r.ht ≤ l.ht + 2) :
    Calls Try.prog 196 #[.pointer a, .pointer al, .pointer ar] w fun e w' => ∃ a', e = .returned (.pointer a') ∧ Tr w' (T.mk p l r) a' ∧ Kp Nu w w' := by
  by_cases c1 : r.ht + 1 < l.ht
  · obtain ⟨ll, lp, lr, el⟩ := T.ht_pos (t := l) (by omega)
    by_cases c2 : ll.ht < lr.ht
    · exact bal_1a hn hl hr hs c1 ll lr lp el c2
    · exact bal_1b hn hl hr hs c1 ll lr lp el c2
  · by_cases c3 : l.ht + 1 < r.ht
    · obtain ⟨rl, rp, rr, el⟩ := T.ht_pos (t := r) (by omega)
      by_cases c2 : rr.ht < rl.ht
      · exact bal_2a hn hl hr hs c3 h2 rl rr rp el c2
      · exact bal_2b hn hl hr hs c3 h2 rl rr rp el c2
    · exact bal_0 hn hl hr hs c1 c3
theorem balanced_at {w W : World} {l r : T (Int × Sv)} {p : Int × Sv} {a al ar : Option Addr} (k : Kp Nu w W) (hn : Nd W p a) (hl : Tr W l al) (hr : Tr W r ar) (hs : l.sz + r.sz < 2 ^ 62) (h1 : l.ht ≤ r.ht + 2) (h2 : r.ht ≤ l.ht + 2) :
    Calls Try.prog 196 #[.pointer a, .pointer al, .pointer ar] W fun e w' => ∃ a', e = .returned (.pointer a') ∧ Tr w' (T.mk p l r) a' ∧ Kp Nu w w' :=
  (balanced_any hn hl hr hs h1 h2).mono fun e w' ⟨a', e1, e2, e3⟩ => ⟨a', e1, e2, k.andNu e3⟩
theorem ins_sz (t : T (Int × Sv)) (i : Nat) (q : Int × Sv) (h : i ≤ t.sz) : (t.ins i q).sz = t.sz + 1 := by
  rw [← T.xs_length, T.ins_xs t i q h, ← T.xs_length t]; simp
  have := T.xs_length t
  omega

set_option maxRecDepth 100000 in
set_option maxHeartbeats 4000000 in
theorem insert_any (k : Int) (v : Sv) : ∀ (t : T (Int × Sv)) (w : World) (a : Option Addr) (i : Nat), Tr w t a → t.bal → t.sz + 1 < 2 ^ 62 → i ≤ t.sz →
    Calls Try.prog 168 #[.pointer a, .int .i64 (i : Int), .int .u64 (k), .slice (v).a (v).n (v).c] w fun e w' => ∃ a', e = .returned (.pointer a') ∧ Tr w' (t.ins i (k, v)) a' ∧ Kp Nu w w' := by
  intro t
  induction t with
  | nil =>
    intro w a i h _ _ hi
    cases (show a = none from h)
    have HF : Hid (Tr (w.alloc (.cells #[.int .u64 (k), .slice (v).a (v).n (v).c, .pointer none, .pointer none, .int .i64 1, .int .i64 1] 211)) (T.ins .nil i (k, v)) (some ⟨w.heap.size, 0, none⟩)) := ⟨_, none, none, rfl, heap_alloc_new w _, rfl, rfl⟩
    clear h hi
    go_enter Try.func168, Try.ntmps168
    go_wp2_with fail
    go_ret
    exact ⟨_, rfl, HF.out, Kp.alloc _ _ _⟩
  | node l p r ihl ihr =>
    intro w a i h hb hs hi
    have hnd := h.nd
    obtain ⟨b, al, ar, ea, hbk, hl, hr⟩ := h
    obtain ⟨bl, br, b1, b2⟩ := hb
    have hs' : l.sz + 1 + r.sz + 1 < 2 ^ 62 := hs
    have hi' : i ≤ l.sz + 1 + r.sz := hi
    have CO : Calls Try.prog 177 #[.pointer al] w fun e w' => e = .returned (.int .i64 (l.sz : Int)) ∧ w' = w := count_any hl
    have HS : ∀ W, Kp Nu w W → W.cell? ⟨b, 2, none⟩ = some (.pointer al) ∧ W.cell? ⟨b, 3, none⟩ = some (.pointer ar) := fun W k => by
      obtain ⟨_, _, c2, c3, _⟩ := cell6 ((k.block _ (blk_lt hbk) (fun h => h)).trans hbk)
      exact ⟨c2, c3⟩
    obtain ⟨c2, c3⟩ := HS w (Kp.refl _ _)
    by_cases hc : i ≤ l.sz
    · have IH : ∀ W, Kp Nu w W → Calls Try.prog 168 #[.pointer al, .int .i64 (i : Int), .int .u64 (k), .slice (v).a (v).n (v).c] W fun e w' => ∃ a', e = .returned (.pointer a') ∧ Tr w' (l.ins i (k, v)) a' ∧ Kp Nu w w' := fun W q =>
        (ihl W al i (hl.nu q) bl (by omega) hc).mono fun e w' ⟨a', e1, e2, e3⟩ => ⟨a', e1, e2, q.andNu e3⟩
      have BA : ∀ W a1, Kp Nu w W → Tr W (l.ins i (k, v)) a1 → Calls Try.prog 196 #[.pointer a, .pointer a1, .pointer ar] W fun e w' => ∃ a', e = .returned (.pointer a') ∧ Tr w' ((T.node l p r).ins i (k, v)) a' ∧ Kp Nu w w' := fun W a1 q t1 => by
        have hib := T.ins_bal l i (k, v) bl
        have := balanced_at q (hnd.keep (Kn.nu q)) t1 (hr.nu q) (by rw [ins_sz _ _ _ hc]; omega) (by omega) (by omega)
        simp only [T.ins]; rw [if_pos hc]; exact this
      have hcI : (i : Int) ≤ (l.sz : Int) := by omega
      subst ea
      clear ihl ihr hnd hbk hl hr bl br b1 b2 hs hs' hi hi' hc
      generalize (l.sz : Int) = L at *
      go_enter Try.func168, Try.ntmps168
      go_wp2_with (go_at_call 177; refine CO.mono ?_; rintro e w' ⟨rfl, hw⟩; obtain rfl := hw.symm)
      go_region_held (fun W => W.cell? ⟨b, 2, none⟩ = some (.pointer al) ∧ W.cell? ⟨b, 3, none⟩ = some (.pointer ar)) (first | (refine HS _ ?_; repeat (first | assumption | exact Kp.refl _ _ | apply Kp.drew)))
        (first
          | (go_at_call 168; refine (IH _ ?_).mono ?_; (repeat (first | assumption | exact Kp.refl _ _ | apply Kp.drew)); rintro e w1 ⟨a1, rfl, t1, k1⟩)
          | (go_at_call 196; refine (BA _ _ ?_ ?_).mono ?_; (first | exact k1 | exact k1.drew); (first | exact t1 | exact t1.nu ((Kp.refl _ _).drew)); rintro e w3 ⟨a3, rfl, t3, k3⟩))
      go_wp2
      go_ret
      exact ⟨_, rfl, t3, k3⟩
    · obtain ⟨j, hj⟩ : ∃ j, i - l.sz - 1 = j := ⟨_, rfl⟩
      have IH : ∀ W, Kp Nu w W → Calls Try.prog 168 #[.pointer ar, .int .i64 (j : Int), .int .u64 (k), .slice (v).a (v).n (v).c] W fun e w' => ∃ a', e = .returned (.pointer a') ∧ Tr w' (r.ins j (k, v)) a' ∧ Kp Nu w w' := fun W q =>
        (ihr W ar j (hr.nu q) br (by omega) (by omega)).mono fun e w' ⟨a', e1, e2, e3⟩ => ⟨a', e1, e2, q.andNu e3⟩
      have BA : ∀ W a1, Kp Nu w W → Tr W (r.ins j (k, v)) a1 → Calls Try.prog 196 #[.pointer a, .pointer al, .pointer a1] W fun e w' => ∃ a', e = .returned (.pointer a') ∧ Tr w' ((T.node l p r).ins i (k, v)) a' ∧ Kp Nu w w' := fun W a1 q t1 => by
        have hib := T.ins_bal r j (k, v) br
        have := balanced_at q (hnd.keep (Kn.nu q)) (hl.nu q) t1 (by rw [ins_sz _ _ _ (by omega)]; omega) (by omega) (by omega)
        simp only [T.ins]; rw [if_neg hc, hj]; exact this
      have hcI : ¬ (i : Int) ≤ (l.sz : Int) := by omega
      have a1 : IntKind.i64.wrap ((i : Int) - (l.sz : Int)) = (i : Int) - (l.sz : Int) := by rw [IntKind.wrap_i64]; omega
      have a2 : IntKind.i64.wrap ((i : Int) - (l.sz : Int) - 1) = (j : Int) := by rw [IntKind.wrap_i64]; omega
      subst ea
      clear ihl ihr hnd hbk hl hr bl br b1 b2 hs hs' hi hi' hc hj
      generalize (l.sz : Int) = L at *
      go_enter Try.func168, Try.ntmps168
      go_wp2_with (go_at_call 177; refine CO.mono ?_; rintro e w' ⟨rfl, hw⟩; obtain rfl := hw.symm)
      go_region_held (fun W => W.cell? ⟨b, 2, none⟩ = some (.pointer al) ∧ W.cell? ⟨b, 3, none⟩ = some (.pointer ar)) (first | (refine HS _ ?_; repeat (first | assumption | exact Kp.refl _ _ | apply Kp.drew)))
        (first
          | (go_at_call 168; refine (IH _ ?_).mono ?_; (repeat (first | assumption | exact Kp.refl _ _ | apply Kp.drew)); rintro e w1 ⟨a1, rfl, t1, k1⟩)
          | (go_at_call 196; refine (BA _ _ ?_ ?_).mono ?_; (first | exact k1 | exact k1.drew); (first | exact t1 | exact t1.nu ((Kp.refl _ _).drew)); rintro e w3 ⟨a3, rfl, t3, k3⟩))
      go_wp2
      go_ret
      exact ⟨_, rfl, t3, k3⟩
end Go.Proofs.Ytchealdgncgjoaa.StU
namespace Go.Proofs.Ytchealdgncgjoaa.StU
open Go.RowKit Go.Proofs.Ytchealdgncgjoaa.St
set_option linter.unusedVariables false
theorem rem_sz (t : T (Int × Sv)) (i : Nat) : (t.rem i).sz ≤ t.sz := by
  rw [← T.xs_length, T.rem_xs t i, ← T.xs_length t, List.length_eraseIdx]; split <;> omega

set_option maxRecDepth 100000 in
set_option maxHeartbeats 4000000 in
theorem remove_any : ∀ (t : T (Int × Sv)) (w : World) (a : Option Addr) (i : Nat), Tr w t a → t.bal → t.sz + 1 < 2 ^ 62 → i < t.sz →
    Calls Try.prog 204 #[.pointer a, .int .i64 (i : Int)] w fun e w' => ∃ a', e = .returned (.pointer a') ∧ Tr w' (t.rem i) a' ∧ Kp Nu w w' := by
  intro t
  induction t with
  | nil =>
    intro w a i h _ _ hi
    simp [T.sz] at hi
  | node l p r ihl ihr =>
    intro w a i h hb hs hi
    have hnd := h.nd
    obtain ⟨b, al, ar, ea, hbk, hl, hr⟩ := h
    obtain ⟨bl, br, b1, b2⟩ := hb
    have hs' : l.sz + 1 + r.sz + 1 < 2 ^ 62 := hs
    have hi' : i < l.sz + 1 + r.sz := hi
    have CO : Calls Try.prog 177 #[.pointer al] w fun e w' => e = .returned (.int .i64 (l.sz : Int)) ∧ w' = w := count_any hl
    have HS : ∀ W, Kp Nu w W → W.cell? ⟨b, 2, none⟩ = some (.pointer al) ∧ W.cell? ⟨b, 3, none⟩ = some (.pointer ar) := fun W k => by
      obtain ⟨_, _, c2, c3, _⟩ := cell6 ((k.block _ (blk_lt hbk) (fun h => h)).trans hbk)
      exact ⟨c2, c3⟩
    obtain ⟨c2, c3⟩ := HS w (Kp.refl _ _)
    have eqr : ∀ j, l.sz < j → (T.node l p r).rem j = T.mk p l (r.rem (j - l.sz - 1)) := fun j hj => by
      cases r with
      | nil => simp only [T.rem]; rw [if_neg (by omega), if_pos hj]
      | node x q y => simp only [T.rem]; rw [if_neg (by omega), if_pos hj]
    have eql : ∀ j, j < l.sz → (T.node l p r).rem j = T.mk p (l.rem j) r := fun j hj => by
      cases r with
      | nil => simp only [T.rem]; rw [if_pos hj]
      | node x q y => simp only [T.rem]; rw [if_pos hj]
    rcases Nat.lt_trichotomy i l.sz with hc | hc | hc
    · have IH : ∀ W, Kp Nu w W → Calls Try.prog 204 #[.pointer al, .int .i64 (i : Int)] W fun e w' => ∃ a', e = .returned (.pointer a') ∧ Tr w' (l.rem i) a' ∧ Kp Nu w w' := fun W q =>
        (ihl W al i (hl.nu q) bl (by omega) hc).mono fun e w' ⟨a', e1, e2, e3⟩ => ⟨a', e1, e2, q.andNu e3⟩
      have BA : ∀ W a1, Kp Nu w W → Tr W (l.rem i) a1 → Calls Try.prog 196 #[.pointer a, .pointer a1, .pointer ar] W fun e w' => ∃ a', e = .returned (.pointer a') ∧ Tr w' ((T.node l p r).rem i) a' ∧ Kp Nu w w' := fun W a1 q t1 => by
        have hib := T.rem_bal l i bl
        have hrs := rem_sz l i
        have := balanced_at q (hnd.keep (Kn.nu q)) t1 (hr.nu q) (by omega) (by omega) (by omega)
        rw [eql i hc]; exact this
      have hcI : (i : Int) < (l.sz : Int) := by omega
      subst ea
      clear ihl ihr hnd hbk hl hr bl br b1 b2 hs hs' hi hi' hc eqr eql
      generalize (l.sz : Int) = L at *
      go_enter Try.func204, Try.ntmps204
      go_wp2_with (go_at_call 177; refine CO.mono ?_; rintro e w' ⟨rfl, hw⟩; obtain rfl := hw.symm)
      go_region_held (fun W => W.cell? ⟨b, 2, none⟩ = some (.pointer al) ∧ W.cell? ⟨b, 3, none⟩ = some (.pointer ar)) (first | (refine HS _ ?_; repeat (first | assumption | exact Kp.refl _ _ | apply Kp.drew)))
        (first
          | (go_at_call 204; refine (IH _ ?_).mono ?_; (repeat (first | assumption | exact Kp.refl _ _ | apply Kp.drew)); rintro e w1 ⟨a1, rfl, t1, k1⟩)
          | (go_at_call 196; refine (BA _ _ ?_ ?_).mono ?_; (first | exact k1 | exact k1.drew); (first | exact t1 | exact t1.nu ((Kp.refl _ _).drew)); rintro e w3 ⟨a3, rfl, t3, k3⟩))
      go_wp2
      go_ret
      exact ⟨_, rfl, t3, k3⟩
    · have hcI : (i : Int) = (l.sz : Int) := by omega
      rw [hcI]
      cases r with
      | nil =>
        cases (show ar = none from hr)
        have er : (T.node l p .nil).rem i = l := by simp only [T.rem]; rw [if_neg (by omega), if_neg (by omega)]
        rw [er]
        have HL := hide hl
        subst ea
        clear ihl ihr hnd hbk hl hr bl br b1 b2 hs hs' hi hi' hc hcI eqr eql HS er
        generalize (l.sz : Int) = L at *
        go_enter Try.func204, Try.ntmps204
        go_wp2_with (go_at_call 177; refine CO.mono ?_; rintro e w' ⟨rfl, hw⟩; obtain rfl := hw.symm)
        go_ret
        exact ⟨_, rfl, HL.out, Kp.refl _ _⟩
      | node x q y =>
        have hrs : (T.node x q y).sz = x.sz + 1 + y.sz := rfl
        obtain ⟨r, hrr⟩ : ∃ r, T.node x q y = r := ⟨_, rfl⟩
        have er : (T.node l p (.node x q y)).rem i = T.mk ((T.node x q y).hd p) l ((T.node x q y).rem 0) := by simp only [T.rem]; rw [if_neg (by omega), if_neg (by omega)]
        have hat : ∃ p0, atT (T.node x q y) (0 : Int) = some p0 ∧ (T.node x q y).hd p = p0 := by
          have := atT_xs (T.node x q y) 0
          rw [show ((0 : Nat) : Int) = (0 : Int) from rfl] at this
          rw [this]
          have h0 : (T.node x q y).xs ≠ [] := by simp [T.xs]
          unfold T.hd
          cases hh : (T.node x q y).xs with
          | nil => exact (h0 hh).elim
          | cons u v => exact ⟨u, rfl, rfl⟩
        obtain ⟨p0, hp0, hp1⟩ := hat
        rw [er, hp1]
        have hra : ∃ br', ar = some ⟨br', 0, none⟩ := by obtain ⟨b', _, _, e, _⟩ := hr; exact ⟨b', e⟩
        rw [hrr] at hr ihr br b1 b2 hi' hs' hrs hp0 ⊢
        clear er eqr eql hrr
        have AT : ∀ W, Kp Nu w W → Calls Try.prog 166 #[.pointer ar, .int .i64 0] W fun e w' => ∃ a', e = .returned (.pointer a') ∧ Nd W p0 a' ∧ w' = W := fun W k => by
          have := at_any (hr.nu k) 0 (by omega) (by omega)
          rw [hp0] at this; exact this
        have IH : ∀ W, Kp Nu w W → Calls Try.prog 204 #[.pointer ar, .int .i64 0] W fun e w' => ∃ a', e = .returned (.pointer a') ∧ Tr w' (r.rem 0) a' ∧ Kp Nu W w' ∧ Kp Nu w w' := fun W q =>
          (ihr W ar 0 (hr.nu q) br (by omega) (by omega)).mono fun e w' ⟨a', e1, e2, e3⟩ => ⟨a', e1, e2, e3, q.andNu e3⟩
        have BA : ∀ W a0 a1, Kp Nu w W → Nd W p0 a0 → Tr W (r.rem 0) a1 → Calls Try.prog 196 #[.pointer a0, .pointer al, .pointer a1] W fun e w' => ∃ a', e = .returned (.pointer a') ∧ Tr w' (T.mk p0 l (r.rem 0)) a' ∧ Kp Nu w w' := fun W a0 a1 q n0 t1 => by
          have hib := T.rem_bal r 0 br
          have hrs := rem_sz r 0
          exact balanced_at q n0 (hl.nu q) t1 (by omega) (by omega) (by omega)
        obtain ⟨b', eb⟩ := hra
        subst ea eb
        clear ihl ihr hnd hbk hl hr bl br b1 b2 hs hs' hi hi' hc hcI hrs hp0 hp1
        generalize (l.sz : Int) = L at *
        go_enter Try.func204, Try.ntmps204
        go_wp2_with (go_at_call 177; refine CO.mono ?_; rintro e w' ⟨rfl, hw⟩; obtain rfl := hw.symm)
        go_region_held (fun W => W.cell? ⟨b, 2, none⟩ = some (.pointer al) ∧ W.cell? ⟨b, 3, none⟩ = some (.pointer (some ⟨b', 0, none⟩))) (first | (refine HS _ ?_; repeat (first | assumption | exact Kp.refl _ _ | apply Kp.drew)))
          (first
            | (go_at_call 166; refine (AT _ ?_).mono ?_; (repeat (first | assumption | exact Kp.refl _ _ | apply Kp.drew)); rintro e w0 ⟨a0, rfl, n0, hw0⟩; obtain rfl := hw0.symm)
            | (go_at_call 204; refine (IH _ ?_).mono ?_; (repeat (first | assumption | exact Kp.refl _ _ | apply Kp.drew)); rintro e w1 ⟨a1, rfl, t1, k0, k1⟩)
            | (go_at_call 196; refine (BA _ _ _ ?_ ?_ ?_).mono ?_; (first | exact k1 | exact k1.drew); (first | exact n0.keep (Kn.nu k0) | exact n0.keep (Kn.nu k0.drew)); (first | exact t1 | exact t1.nu ((Kp.refl _ _).drew)); rintro e w3 ⟨a3, rfl, t3, k3⟩))
        go_wp2
        go_ret
        exact ⟨_, rfl, t3, k3⟩
    · obtain ⟨j, hj⟩ : ∃ j, i - l.sz - 1 = j := ⟨_, rfl⟩
      have IH : ∀ W, Kp Nu w W → Calls Try.prog 204 #[.pointer ar, .int .i64 (j : Int)] W fun e w' => ∃ a', e = .returned (.pointer a') ∧ Tr w' (r.rem j) a' ∧ Kp Nu w w' := fun W q =>
        (ihr W ar j (hr.nu q) br (by omega) (by omega)).mono fun e w' ⟨a', e1, e2, e3⟩ => ⟨a', e1, e2, q.andNu e3⟩
      have BA : ∀ W a1, Kp Nu w W → Tr W (r.rem j) a1 → Calls Try.prog 196 #[.pointer a, .pointer al, .pointer a1] W fun e w' => ∃ a', e = .returned (.pointer a') ∧ Tr w' ((T.node l p r).rem i) a' ∧ Kp Nu w w' := fun W a1 q t1 => by
        have hib := T.rem_bal r j br
        have hrs := rem_sz r j
        have := balanced_at q (hnd.keep (Kn.nu q)) (hl.nu q) t1 (by omega) (by omega) (by omega)
        rw [eqr i hc, hj]; exact this
      have hcI : (l.sz : Int) < (i : Int) := by omega
      have hcJ : ¬ (i : Int) < (l.sz : Int) := by omega
      have a1 : IntKind.i64.wrap ((i : Int) - (l.sz : Int)) = (i : Int) - (l.sz : Int) := by rw [IntKind.wrap_i64]; omega
      have a2 : IntKind.i64.wrap ((i : Int) - (l.sz : Int) - 1) = (j : Int) := by rw [IntKind.wrap_i64]; omega
      subst ea
      clear ihl ihr hnd hbk hl hr bl br b1 b2 hs hs' hi hi' hc hj eqr eql
      generalize (l.sz : Int) = L at *
      go_enter Try.func204, Try.ntmps204
      go_wp2_with (go_at_call 177; refine CO.mono ?_; rintro e w' ⟨rfl, hw⟩; obtain rfl := hw.symm)
      go_region_held (fun W => W.cell? ⟨b, 2, none⟩ = some (.pointer al) ∧ W.cell? ⟨b, 3, none⟩ = some (.pointer ar)) (first | (refine HS _ ?_; repeat (first | assumption | exact Kp.refl _ _ | apply Kp.drew)))
        (first
          | (go_at_call 204; refine (IH _ ?_).mono ?_; (repeat (first | assumption | exact Kp.refl _ _ | apply Kp.drew)); rintro e w1 ⟨a1, rfl, t1, k1⟩)
          | (go_at_call 196; refine (BA _ _ ?_ ?_).mono ?_; (first | exact k1 | exact k1.drew); (first | exact t1 | exact t1.nu ((Kp.refl _ _).drew)); rintro e w3 ⟨a3, rfl, t3, k3⟩))
      go_wp2
      go_ret
      exact ⟨_, rfl, t3, k3⟩
end Go.Proofs.Ytchealdgncgjoaa.StU
