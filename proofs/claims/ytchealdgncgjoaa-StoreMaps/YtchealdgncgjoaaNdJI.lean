import Derived.Test.YtchealdgncgjoaaNdKI
import Derived.Deep.QuietTactic
import Derived.Deep.LoopGhost
import Derived.Test.YtchealdgncgjoaaNdGI
namespace Go.Proofs.Ytchealdgncgjoaa.StI
open Go.RowKit Go.Proofs.Ytchealdgncgjoaa.St
set_option linter.unusedVariables false

section
variable {w : World} {l r : T (Int × Int)} {p : Int × Int} {a al ar : Option Addr}
set_option maxRecDepth 1000000 in
set_option maxHeartbeats 4000000 in
theorem bal_2b (hn : Nd w p a) (hl : Tr w l al) (hr : Tr w r ar) (hs : l.sz + r.sz < 2 ^ 62) (h1 : l.ht + 1 < r.ht) (h2 : r.ht ≤ l.ht + 2) (rl rr : T (Int × Int)) (rp : Int × Int) (el : r = .node rl rp rr) (hi : ¬ rr.ht < rl.ht) :
    Calls Try.prog 151 #[.pointer a, .pointer al, .pointer ar] w fun e w' => ∃ a', e = .returned (.pointer a') ∧ Tr w' (T.mk p l r) a' ∧ Kp Nu w w' := by
  have HL : ∀ W, Kp Nu w W → Calls Try.prog 88 #[.pointer al] W fun e w' => e = .returned (.int .i64 (l.ht : Int)) ∧ w' = W := fun W k => high_any (hl.nu k)
  have HR : ∀ W, Kp Nu w W → Calls Try.prog 88 #[.pointer ar] W fun e w' => e = .returned (.int .i64 (r.ht : Int)) ∧ w' = W := fun W k => high_any (hr.nu k)
  have e1 := ht_sz l
  have e2 := ht_sz r
  have hnr : Nd w rp ar := by rw [el] at hr; exact hr.nd
  have ELT : Hid (r = .node rl rp rr) := el
  have hr2 := hr
  rw [el] at hr2
  obtain ⟨br, arl, arr, ea, hb, hrl, hrr⟩ := hr2
  have hsz : r.sz = rl.sz + 1 + rr.sz := by rw [el]; rfl
  have HI : ∀ W, Kp Nu w W → Calls Try.prog 88 #[.pointer arl] W fun e w' => e = .returned (.int .i64 (rl.ht : Int)) ∧ w' = W := fun W k => high_any (hrl.nu k)
  have HRR : ∀ W, Kp Nu w W → Calls Try.prog 88 #[.pointer arr] W fun e w' => e = .returned (.int .i64 (rr.ht : Int)) ∧ w' = W := fun W k => high_any (hrr.nu k)
  have O1 : ∀ W, Kp Nu w W → Calls Try.prog 152 #[.pointer a, .pointer al, .pointer arl] W fun e w' => ∃ a', e = .returned (.pointer a') ∧ Tr w' (.node l p rl) a' ∧ Kp Nu W w' ∧ Kp Nu w w' := fun W k => over_at k (hn.keep (Kn.nu k)) (hl.nu k) (hrl.nu k) (by omega)
  have O3 : ∀ W a1, Kp Nu w W → Tr W (.node l p rl) a1 → Calls Try.prog 152 #[.pointer ar, .pointer a1, .pointer arr] W fun e w' => ∃ a', e = .returned (.pointer a') ∧ Tr w' (T.mk p l r) a' ∧ Kp Nu w w' := fun W a1 k t1 => by
    refine (over_at k (hnr.keep (Kn.nu k)) t1 (hrr.nu k) (by simp only [T.sz]; omega)).mono ?_
    rintro e w' ⟨a', e1, e2, e3, e4⟩
    refine ⟨a', e1, ?_, e4⟩
    have : T.mk p l r = .node (.node l p rl) rp rr := by
      unfold T.mk; rw [if_neg (by omega), if_pos h1, ELT.out]; unfold T.balR; simp only [if_neg hi]
    rw [this]; exact e2
  have HS : ∀ W, Kp Nu w W → W.cell? ⟨br, 2, none⟩ = some (.pointer arl) ∧ W.cell? ⟨br, 3, none⟩ = some (.pointer arr) := fun W k => by
    obtain ⟨_, _, c2, c3, _⟩ := cell6 ((k.block _ (blk_lt hb) (fun h => h)).trans hb)
    exact ⟨c2, c3⟩
  have e4 : rr.ht ≤ 2 ^ 62 := by have := ht_sz rr; omega
  have e3 : rl.ht ≤ 2 ^ 62 := by have := ht_sz rl; omega
  generalize l.ht = A at *
  generalize r.ht = B at *
  generalize rr.ht = C at *
  generalize rl.ht = D at *
  have h1' : (A : Int) - (B : Int) = -2 := by omega
  have hA : (A : Int) < 4611686018427387904 := by omega
  have hB : (B : Int) < 4611686018427387904 := by omega
  have hi' : (D : Int) ≤ (C : Int) := by omega
  clear hi e3 e4
  generalize (C : Int) = cC at *
  generalize (D : Int) = dD at *
  obtain ⟨c2, c3⟩ := HS w (Kp.refl _ _)
  subst ea
  clear hn hl hr h1 h2 hs e1 e2 hb hrl hrr hnr hsz el
  go_enter Try.func151, Try.ntmps151
  go_wp2_with (first
    | (go_at_call_of 88 al; refine (HL _ ?_).mono ?_; (repeat (first | assumption | exact Kp.refl _ _ | exact kp_drewN _ _ | apply Kp.drew)); rintro e w' ⟨rfl, rfl⟩)
    | (go_at_call_of 88 br; refine (HR _ ?_).mono ?_; (repeat (first | assumption | exact Kp.refl _ _ | exact kp_drewN _ _ | apply Kp.drew)); rintro e w' ⟨rfl, rfl⟩))
  go_quiet (first
      | (go_at_call_of 88 arl; refine Calls.quiet_of_same (HI _ ?_); exact kp_drewN _ _)
      | (go_at_call_of 88 arr; refine Calls.quiet_of_same (HRR _ ?_); exact kp_drewN _ _))
  clear hA hB
  go_wp2_with fail
  go_region_held (fun W => W.cell? ⟨br, 2, none⟩ = some (.pointer arl) ∧ W.cell? ⟨br, 3, none⟩ = some (.pointer arr)) (first | (refine HS _ ?_; repeat (first | assumption | exact Kp.refl _ _ | exact kp_drewN _ _ | apply Kp.drew)))
    (first
      | (go_at_call_of 152 arl; refine (O1 _ ?_).mono ?_; (repeat (first | assumption | exact Kp.refl _ _ | exact kp_drewN _ _ | apply Kp.drew)); rintro e w1 ⟨a1, rfl, t1, k1, q1⟩)
      | (go_at_call_of 152 arr; refine (O3 _ _ ?_ ?_).mono ?_; (first | exact q1 | exact q1.drew); (first | exact t1 | exact t1.nu ((Kp.refl _ _).drew)); rintro e w3 ⟨a3, rfl, t3, k3⟩))
  go_wp2
  go_ret
  exact ⟨_, rfl, t3, k3⟩
end
end Go.Proofs.Ytchealdgncgjoaa.StI
namespace Go.Proofs.Ytchealdgncgjoaa.StI
open Go.RowKit Go.Proofs.Ytchealdgncgjoaa.St
set_option linter.unusedVariables false

/-- the pair at a place -/
def atT : T (Int × Int) → Int → Option (Int × Int)
  | .nil, _ => none
  | .node l p r, i => if i < (l.sz : Int) then atT l i else if (l.sz : Int) < i then atT r (i - ((l.sz : Int) + 1)) else some p
theorem atT_neg : ∀ (t : T (Int × Int)) (i : Int), i < 0 → atT t i = none
  | .nil, i, h => rfl
  | .node l p r, i, h => by simp only [atT]; rw [if_pos (by omega), atT_neg l i h]
theorem atT_xs : ∀ (t : T (Int × Int)) (i : Nat), atT t (i : Int) = t.xs[i]?
  | .nil, i => by simp [atT, T.xs]
  | .node l p r, i => by
    have el := T.xs_length l
    simp only [atT, T.xs]
    by_cases h1 : (i : Int) < (l.sz : Int)
    · rw [if_pos h1, atT_xs l i, List.getElem?_append_left (by omega)]
    · rw [if_neg h1, List.getElem?_append_right (by omega)]
      by_cases h2 : (l.sz : Int) < (i : Int)
      · rw [if_pos h2]
        have e : (i : Int) - ((l.sz : Int) + 1) = ((i - l.sz - 1 : Nat) : Int) := by omega
        rw [e, atT_xs r _]
        have e2 : i - l.xs.length = (i - l.sz - 1) + 1 := by omega
        rw [e2]; rfl
      · rw [if_neg h2]
        have e2 : i - l.xs.length = 0 := by omega
        rw [e2]; rfl
/-- what at answers: a node with this pair, or none -/
def An (w : World) (o : Option (Int × Int)) (a : Option Addr) : Prop := match o with
  | none => a = none
  | some p => Nd w p a

set_option maxRecDepth 100000 in
set_option maxHeartbeats 2000000 in
theorem at_any {w : World} {t : T (Int × Int)} {a : Option Addr} (h : Tr w t a) (i : Int) (hi : i ≤ 9223372036854775807) (hs : t.sz < 2 ^ 62) :
    Calls Try.prog 81 #[.pointer a, .int .i64 i] w fun e w' => ∃ a', e = .returned (.pointer a') ∧ An w (atT t i) a' ∧ w' = w := by
  have HI : Hid (i ≤ 9223372036854775807 ∧ t.sz < 2 ^ 62) := ⟨hi, hs⟩
  have HT : Hid (Tr w t a) := h
  clear hi hs h
  go_enter Try.func81, Try.ntmps81
  go_wp2_with fail
  go_loopg [0, 1] t.sz (fun k s0 s1 wr => ∃ (t' : T (Int × Int)) (a' : Option Addr) (i' : Int), s0 = .pointer a' ∧ s1 = .int .i64 i' ∧ wr = w ∧ t'.sz ≤ k ∧ Hid (Tr w t' a' ∧ atT t i = atT t' i' ∧ i' ≤ 9223372036854775807 ∧ t'.sz < 2 ^ 62))
  case atStart => exact ⟨t, a, i, rfl, rfl, rfl, Nat.le_refl _, HT.out, rfl, HI.out.1, HI.out.2⟩
  case round =>
    obtain ⟨t', a', i', rfl, rfl, hw, hk, hh⟩ := hrel
    subst hw
    cases t' with
    | nil =>
      cases (show a' = none from hh.out.1)
      have HF : Hid (An wr (atT t i) none) := by rw [hh.out.2.1]; exact rfl
      clear hh HT HI
      go_wp2_with fail
      go_ret
      exact ⟨_, rfl, HF.out, rfl⟩
    | node l p r =>
      obtain ⟨⟨b, al, ar, ea, hb, hl, hr⟩, hat, hi1, hs1⟩ := hh.out
      obtain ⟨c0, c1, c2, c3, c4, c5⟩ := cell6 hb
      have CO : Calls Try.prog 85 #[.pointer al] wr fun e w' => e = .returned (.int .i64 (l.sz : Int)) ∧ w' = wr := count_any hl
      have hnd : Nd wr p (some ⟨b, 0, none⟩) := ⟨b, _, _, _, _, rfl, hb⟩
      subst ea
      have hsl : l.sz + 1 + r.sz ≤ gk := hk
      have hsz : l.sz + 1 + r.sz < 2 ^ 62 := hs1
      simp only [atT] at hat
      rcases Int.lt_trichotomy i' (l.sz : Int) with hc | hc | hc
      · rw [if_pos hc] at hat
        have HN : Hid ((Tr wr l al ∧ atT t i = atT l i' ∧ i' ≤ 9223372036854775807 ∧ l.sz < 2 ^ 62) ∧ l.sz < gk) := ⟨⟨hl, hat, hi1, by omega⟩, by omega⟩
        clear hh HT HI hb hl hr hat hi1 hs1 c0 c1 c3 c4 c5 hnd hsl hsz hk
        generalize (l.sz : Int) = L at *
        go_wp2_with (go_at_call 85; refine CO.mono ?_; rintro e w' ⟨rfl, hw⟩; obtain rfl := hw.symm)
        go_roundg l.sz
        case measure => exact HN.out.2
        case rel => exact ⟨l, al, i', rfl, rfl, rfl, Nat.le_refl _, HN.out.1⟩
      · rw [if_neg (by omega), if_neg (by omega)] at hat
        have HF : Hid (An wr (atT t i) (some ⟨b, 0, none⟩)) := by rw [hat]; exact hnd
        clear hh HT HI hb hl hr hat hi1 hs1 c0 c1 c3 c4 c5 hnd hsl hsz hk
        subst hc
        go_wp2_with (go_at_call 85; refine CO.mono ?_; rintro e w' ⟨rfl, hw⟩; obtain rfl := hw.symm)
        go_ret
        exact ⟨_, rfl, HF.out, rfl⟩
      · rw [if_neg (by omega), if_pos hc] at hat
        have HN : Hid ((Tr wr r ar ∧ atT t i = atT r (i' - ((l.sz : Int) + 1)) ∧ i' - ((l.sz : Int) + 1) ≤ 9223372036854775807 ∧ r.sz < 2 ^ 62) ∧ r.sz < gk) := ⟨⟨hr, hat, by omega, by omega⟩, by omega⟩
        have q1 : wrap64 ((l.sz : Int) + 1) = (l.sz : Int) + 1 := by unfold wrap64; omega
        have q2 : wrap64 (i' - ((l.sz : Int) + 1)) = i' - ((l.sz : Int) + 1) := by unfold wrap64; omega
        have hc2 : ¬ i' < (l.sz : Int) := by omega
        clear hh HT HI hb hl hr hat hi1 hs1 c0 c1 c4 c5 hnd hsl hsz hk
        generalize (l.sz : Int) = L at *
        go_wp2_with (go_at_call 85; refine CO.mono ?_; rintro e w' ⟨rfl, hw⟩; obtain rfl := hw.symm)
        go_roundg r.sz
        case measure => exact HN.out.2
        case rel => exact ⟨r, ar, _, rfl, rfl, rfl, Nat.le_refl _, by rw [q2]; exact HN.out.1⟩
end Go.Proofs.Ytchealdgncgjoaa.StI
namespace Go.Proofs.Ytchealdgncgjoaa.StI
open Go.RowKit Go.Proofs.Ytchealdgncgjoaa.St
set_option linter.unusedVariables false

theorem balanced_any {w : World} {l r : T (Int × Int)} {p : Int × Int} {a al ar : Option Addr} (hn : Nd w p a) (hl : Tr w l al) (hr : Tr w r ar) (hs : l.sz + r.sz < 2 ^ 62) (h1 : l.ht ≤ r.ht + 2) (h2 : r.ht ≤ l.ht + 2) :
    Calls Try.prog 151 #[.pointer a, .pointer al, .pointer ar] w fun e w' => ∃ a', e = .returned (.pointer a') ∧ Tr w' (T.mk p l r) a' ∧ Kp Nu w w' := by
  by_cases c1 : r.ht + 1 < l.ht
  · obtain ⟨ll, lp, lr, el⟩ := T.ht_pos (t := l) (by omega)
    by_cases c2 : ll.ht < lr.ht
    · exact bal_1a hn hl hr hs c1 ll lr lp el c2
    · exact bal_1b hn hl hr hs c1 ll lr lp el c2
  · by_cases c3 : l.ht + 1 < r.ht
    · obtain ⟨rl, rp, rr, el⟩ := T.ht_pos (t := r) (by omega)
      by_cases c2 : rr.ht < rl.ht
      · exact bal_2a hn hl hr hs c3 h2 rl rr rp el c2
      · exact bal_2b hn hl hr hs c3 h2 rl rr rp el c2
    · exact bal_0 hn hl hr hs c1 c3
theorem balanced_at {w W : World} {l r : T (Int × Int)} {p : Int × Int} {a al ar : Option Addr} (k : Kp Nu w W) (hn : Nd W p a) (hl : Tr W l al) (hr : Tr W r ar) (hs : l.sz + r.sz < 2 ^ 62) (h1 : l.ht ≤ r.ht + 2) (h2 : r.ht ≤ l.ht + 2) :
    Calls Try.prog 151 #[.pointer a, .pointer al, .pointer ar] W fun e w' => ∃ a', e = .returned (.pointer a') ∧ Tr w' (T.mk p l r) a' ∧ Kp Nu w w' :=
  (balanced_any hn hl hr hs h1 h2).mono fun e w' ⟨a', e1, e2, e3⟩ => ⟨a', e1, e2, k.andNu e3⟩
theorem ins_sz (t : T (Int × Int)) (i : Nat) (q : Int × Int) (h : i ≤ t.sz) : (t.ins i q).sz = t.sz + 1 := by
  rw [← T.xs_length, T.ins_xs t i q h, ← T.xs_length t]; simp
  have := T.xs_length t
  omega

set_option maxRecDepth 100000 in
set_option maxHeartbeats 4000000 in
theorem insert_any (k : Int) (v : Int) : ∀ (t : T (Int × Int)) (w : World) (a : Option Addr) (i : Nat), Tr w t a → t.bal → t.sz + 1 < 2 ^ 62 → i ≤ t.sz →
    Calls Try.prog 79 #[.pointer a, .int .i64 (i : Int), .int .i64 (k), .int .i64 (v)] w fun e w' => ∃ a', e = .returned (.pointer a') ∧ Tr w' (t.ins i (k, v)) a' ∧ Kp Nu w w' := by
  intro t
  induction t with
  | nil =>
    intro w a i h _ _ hi
    cases (show a = none from h)
    have HF : Hid (Tr (w.alloc (.cells #[.int .i64 (k), .int .i64 (v), .pointer none, .pointer none, .int .i64 1, .int .i64 1] 136)) (T.ins .nil i (k, v)) (some ⟨w.heap.size, 0, none⟩)) := ⟨_, none, none, rfl, heap_alloc_new w _, rfl, rfl⟩
    clear h hi
    go_enter Try.func79, Try.ntmps79
    go_wp2_with fail
    go_ret
    exact ⟨_, rfl, HF.out, Kp.alloc _ _ _⟩
  | node l p r ihl ihr =>
    intro w a i h hb hs hi
    have hnd := h.nd
    obtain ⟨b, al, ar, ea, hbk, hl, hr⟩ := h
    obtain ⟨bl, br, b1, b2⟩ := hb
    have hs' : l.sz + 1 + r.sz + 1 < 2 ^ 62 := hs
    have hi' : i ≤ l.sz + 1 + r.sz := hi
    have CO : Calls Try.prog 85 #[.pointer al] w fun e w' => e = .returned (.int .i64 (l.sz : Int)) ∧ w' = w := count_any hl
    have HS : ∀ W, Kp Nu w W → W.cell? ⟨b, 2, none⟩ = some (.pointer al) ∧ W.cell? ⟨b, 3, none⟩ = some (.pointer ar) := fun W k => by
      obtain ⟨_, _, c2, c3, _⟩ := cell6 ((k.block _ (blk_lt hbk) (fun h => h)).trans hbk)
      exact ⟨c2, c3⟩
    obtain ⟨c2, c3⟩ := HS w (Kp.refl _ _)
    by_cases hc : i ≤ l.sz
    · have IH : ∀ W, Kp Nu w W → Calls Try.prog 79 #[.pointer al, .int .i64 (i : Int), .int .i64 (k), .int .i64 (v)] W fun e w' => ∃ a', e = .returned (.pointer a') ∧ Tr w' (l.ins i (k, v)) a' ∧ Kp Nu w w' := fun W q =>
        (ihl W al i (hl.nu q) bl (by omega) hc).mono fun e w' ⟨a', e1, e2, e3⟩ => ⟨a', e1, e2, q.andNu e3⟩
      have BA : ∀ W a1, Kp Nu w W → Tr W (l.ins i (k, v)) a1 → Calls Try.prog 151 #[.pointer a, .pointer a1, .pointer ar] W fun e w' => ∃ a', e = .returned (.pointer a') ∧ Tr w' ((T.node l p r).ins i (k, v)) a' ∧ Kp Nu w w' := fun W a1 q t1 => by
        have hib := T.ins_bal l i (k, v) bl
        have := balanced_at q (hnd.keep (Kn.nu q)) t1 (hr.nu q) (by rw [ins_sz _ _ _ hc]; omega) (by omega) (by omega)
        simp only [T.ins]; rw [if_pos hc]; exact this
      have hcI : (i : Int) ≤ (l.sz : Int) := by omega
      subst ea
      clear ihl ihr hnd hbk hl hr bl br b1 b2 hs hs' hi hi' hc
      generalize (l.sz : Int) = L at *
      go_enter Try.func79, Try.ntmps79
      go_wp2_with (go_at_call 85; refine CO.mono ?_; rintro e w' ⟨rfl, hw⟩; obtain rfl := hw.symm)
      go_region_held (fun W => W.cell? ⟨b, 2, none⟩ = some (.pointer al) ∧ W.cell? ⟨b, 3, none⟩ = some (.pointer ar)) (first | (refine HS _ ?_; repeat (first | assumption | exact Kp.refl _ _ | apply Kp.drew)))
        (first
          | (go_at_call 79; refine (IH _ ?_).mono ?_; (repeat (first | assumption | exact Kp.refl _ _ | apply Kp.drew)); rintro e w1 ⟨a1, rfl, t1, k1⟩)
          | (go_at_call 151; refine (BA _ _ ?_ ?_).mono ?_; (first | exact k1 | exact k1.drew); (first | exact t1 | exact t1.nu ((Kp.refl _ _).drew)); rintro e w3 ⟨a3, rfl, t3, k3⟩))
      go_wp2
      go_ret
      exact ⟨_, rfl, t3, k3⟩
    · obtain ⟨j, hj⟩ : ∃ j, i - l.sz - 1 = j := ⟨_, rfl⟩
      have IH : ∀ W, Kp Nu w W → Calls Try.prog 79 #[.pointer ar, .int .i64 (j : Int), .int .i64 (k), .int .i64 (v)] W fun e w' => ∃ a', e = .returned (.pointer a') ∧ Tr w' (r.ins j (k, v)) a' ∧ Kp Nu w w' := fun W q =>
        (ihr W ar j (hr.nu q) br (by omega) (by omega)).mono fun e w' ⟨a', e1, e2, e3⟩ => ⟨a', e1, e2, q.andNu e3⟩
      have BA : ∀ W a1, Kp Nu w W → Tr W (r.ins j (k, v)) a1 → Calls Try.prog 151 #[.pointer a, .pointer al, .pointer a1] W fun e w' => ∃ a', e = .returned (.pointer a') ∧ Tr w' ((T.node l p r).ins i (k, v)) a' ∧ Kp Nu w w' := fun W a1 q t1 => by
        have hib := T.ins_bal r j (k, v) br
        have := balanced_at q (hnd.keep (Kn.nu q)) (hl.nu q) t1 (by rw [ins_sz _ _ _ (by omega)]; omega) (by omega) (by omega)
        simp only [T.ins]; rw [if_neg hc, hj]; exact this
      have hcI : ¬ (i : Int) ≤ (l.sz : Int) := by omega
      have a1 : IntKind.i64.wrap ((i : Int) - (l.sz : Int)) = (i : Int) - (l.sz : Int) := by rw [IntKind.wrap_i64]; omega
      have a2 : IntKind.i64.wrap ((i : Int) - (l.sz : Int) - 1) = (j : Int) := by rw [IntKind.wrap_i64]; omega
      subst ea
      clear ihl ihr hnd hbk hl hr bl br b1 b2 hs hs' hi hi' hc hj
      generalize (l.sz : Int) = L at *
      go_enter Try.func79, Try.ntmps79
      go_wp2_with (go_at_call 85; refine CO.mono ?_; rintro e w' ⟨rfl, hw⟩; obtain rfl := hw.symm)
      go_region_held (fun W => W.cell? ⟨b, 2, none⟩ = some (.pointer al) ∧ W.cell? ⟨b, 3, none⟩ = some (.pointer ar)) (first | (refine HS _ ?_; repeat (first | assumption | exact Kp.refl _ _ | apply Kp.drew)))
        (first
          | (go_at_call 79; refine (IH _ ?_).mono ?_; (repeat (first | assumption | exact Kp.refl _ _ | apply Kp.drew)); rintro e w1 ⟨a1, rfl, t1, k1⟩)
          | (go_at_call 151; refine (BA _ _ ?_ ?_).mono ?_; (first | exact k1 | exact k1.drew); (first | exact t1 | exact t1.nu ((Kp.refl _ _).drew)); rintro e w3 ⟨a3, rfl, t3, k3⟩))
      go_wp2
      go_ret
      exact ⟨_, rfl, t3, k3⟩
end Go.Proofs.Ytchealdgncgjoaa.StI
