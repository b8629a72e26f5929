import Derived.Test.YtchealdgncgjoaaMpBM
import Derived.Test.YtchealdgncgjoaaMpCM
import Derived.Test.YtchealdgncgjoaaClCM
import Derived.Test.YtchealdgncgjoaaRnD
import Derived.Test.YtchealdgncgjoaaRnF
import Derived.BigQuiet
namespace Go.Proofs.Ytchealdgncgjoaa.StM
open Go.RowKit Go.Proofs.Ytchealdgncgjoaa.St Go.Shelf Go.Sort Go.Proofs.Ytchealdgncgjoaa.It Go.Proofs.Ytchealdgncgjoaa.StI
set_option linter.unusedVariables false
set_option linter.unusedSimpArgs false
/-- the document's map and the program's find a key at the same place -/
theorem ahead_fd {wh : Int} {t : T (Int × Int)} (hs : Srt (cmpW wh) t.xs) (k : Int) : StI.ahead (cmpW wh) k t.xs t.xs.length = (T.fd (sd wh k) t).1 := by
  rw [T.fd_eq (sd wh k) t (hs.c (cmpW_ord wh) k)]
  unfold StI.ahead
  rw [List.take_length]
  refine List.countP_congr (fun p _ => ?_)
  have := (cmpW_ord wh).anti p.1 k
  simp only [decide_eq_true_eq]
  exact this
theorem plc_yes {wh : Int} {t : T (Int × Int)} (hs : Srt (cmpW wh) t.xs) {k : Int} (h : (T.fd (sd wh k) t).2 = true) : plc (cmpW wh) k t.xs = ((T.fd (sd wh k) t).1 : Int) := by
  have hf := T.fd_eq (sd wh k) t (hs.c (cmpW_ord wh) k)
  have h2 : t.xs.any (fun a => decide (sd wh k a = 0)) = true := by rw [← h, hf]
  obtain ⟨p, hp, hk⟩ := hs.at (cmpW_ord wh) h2
  have h1 : (T.fd (sd wh k) t).1 = t.xs.countP (fun a => decide (0 < sd wh k a)) := by rw [hf]
  unfold plc
  rw [ahead_fd hs k, h1, hp]
  have : (cmpW wh) p.1 k = 0 := (cmpW_ord wh).sym0.1 hk
  simp only [this, if_true]
theorem plc_no {wh : Int} {t : T (Int × Int)} (hs : Srt (cmpW wh) t.xs) {k : Int} (h : (T.fd (sd wh k) t).2 = false) : plc (cmpW wh) k t.xs = -1 := by
  have hf := T.fd_eq (sd wh k) t (hs.c (cmpW_ord wh) k)
  have h2 : t.xs.any (fun a => decide (sd wh k a = 0)) = false := by rw [← h, hf]
  unfold plc
  split
  · rename_i p hp
    rw [if_neg]
    intro h0
    have := List.any_eq_false.1 h2 p (List.mem_of_getElem? hp)
    exact this (by simpa using (cmpW_ord wh).sym0.1 h0)
  · rfl
section
variable {B : Nat} {w w' : World} {rb mb bw : Nat} {wh : Int} {vk vv : Value} {t : T (Int × Int)}
theorem lower {B' : Nat} {xs : List (Int × Int)} (h : Rm B' w rb wh vk vv xs) (hB : B ≤ B') : Rm B w rb wh vk vv xs := ⟨h.blk, own_lower hB h.ok, own_lower hB h.ov, h.apart⟩
theorem keepM {xs : List (Int × Int)} (h : Rm B w rb wh vk vv xs) (hm : Mp bw wh w mb t) (k : Kp (fun i => i = mb) w w') : Rm B w' rb wh vk vv xs := by
  obtain ⟨a, h1, _⟩ := hm.ex
  have hn : ∀ g c ty p, w.heap[g]? = some (.cells c ty p) → ty ≠ 130 → g ≠ mb := fun g c ty p hg hty e => by
    rw [e, h1] at hg; cases hg; exact hty rfl
  refine ⟨(k.block _ (blk_lt h.blk) (hn _ _ _ _ h.blk (by decide))).trans h.blk, own_keep h.ok (fun g hg => ?_), own_keep h.ov (fun g hg => ?_), h.apart⟩
  · obtain ⟨cur, hc⟩ := own_obj h.ok hg
    exact k.block g (blk_lt hc) (hn _ _ _ _ hc (by decide))
  · obtain ⟨cur, hc⟩ := own_obj h.ov hg
    exact k.block g (blk_lt hc) (hn _ _ _ _ hc (by decide))
theorem keepR {xs : List (Int × Int)} (hm : Mp bw wh w mb t) (hb : bw < B) (h : Rm B w rb wh vk vv xs) (k : Kp (fun i => i = rb ∨ vv.ownBlock = some i) w w') : Mp bw wh w' mb t := by
  obtain ⟨a, h1, h2⟩ := hm.ex
  have hn : ∀ g c ty p, w.heap[g]? = some (.cells c ty p) → ty ≠ 52 → ty ≠ 3 → ¬ (g = rb ∨ vv.ownBlock = some g) := fun g c ty p hg t1 t2 e => by
    rcases e with e | e
    · rw [e, h.blk] at hg; cases hg; exact t1 rfl
    · obtain ⟨cur, hc⟩ := own_obj h.ov e
      rw [hc] at hg; cases hg; exact t2 rfl
  refine ⟨⟨a, (k.block _ (blk_lt h1) (hn _ _ _ _ h1 (by decide) (by decide))).trans h1, h2.keep (Kn.of k (fun b c hb => hn _ _ _ _ hb (by decide) (by decide)))⟩, hm.bal, hm.srt, (k.block _ (blk_lt hm.bx.1) (fun e => ?_)).trans hm.bx.1, hm.bx.2⟩
  rcases e with e | e
  · have := h.blk; rw [← e, hm.bx.1] at this; cases this
  · have := own_low h.ov e; omega
/-- the document's Put, told by the program's: where its rows lie afterwards -/
theorem rput_TN (h : Rm B w rb wh vk vv t.xs) (ho : Oc wh (cmpW wh)) (hs : Srt (cmpW wh) t.xs) (hB : B ≤ w.heap.size) (k v : Int) (hl : t.xs.length ≤ 17592186044000) :
    Calls Try.prog 36 #[.pointer (some ⟨rb, 0, none⟩), .int .i64 k, .int .i64 v] w fun e w' => e = .returned (.tuple #[ov (getT wh k t), .bool (T.fd (sd wh k) t).2]) ∧ (∃ vk' vv', Rm B w' rb wh vk' vv' (putT wh k v t).xs ∧ (∀ g, vk'.ownBlock = some g → vk.ownBlock = some g ∨ w.heap.size ≤ g) ∧ (∀ g, vv'.ownBlock = some g → vv.ownBlock = some g ∨ w.heap.size ≤ g)) ∧ Kp (fun i => i = rb ∨ vv.ownBlock = some i) w w' := by
  cases hf : (T.fd (sd wh k) t).2 with
  | true =>
    obtain ⟨p, hp, hg⟩ := getT_some hf
    refine (rput_oldN h ho k v hl _ p (plc_yes hs hf) hp).mono ?_
    rintro e w' ⟨rfl, hr, hk⟩
    refine ⟨by rw [hg]; rfl, ⟨vk, vv, ?_, fun g h => .inl h, fun g h => .inl h⟩, hk.mono (fun _ _ h => .inr h)⟩
    rw [put_xs, if_pos hf]; exact hr
  | false =>
    refine (rput_newN h hB ho k v hl (plc_no hs hf)).mono ?_
    rintro e w' ⟨rfl, ⟨vk', vv', hr, hk⟩⟩
    have hg : getT wh k t = none := by unfold getT; rw [hf]; rfl
    refine ⟨by rw [hg]; rfl, ⟨vk', vv', ?_, fun g h => .inr (own_low hr.ok h), fun g h => .inr (own_low hr.ov h)⟩, hk.mono (fun _ _ h => .inl h)⟩
    rw [put_xs, hf]
    rw [ahead_fd hs k] at hr
    exact lower hr hB
/-- the document's Delete, told by the program's: where its rows lie afterwards -/
theorem rdel_TN (h : Rm B w rb wh vk vv t.xs) (ho : Oc wh (cmpW wh)) (hs : Srt (cmpW wh) t.xs) (hB : B ≤ w.heap.size) (k : Int) (hl : t.xs.length ≤ 17592186044000) :
    Calls Try.prog 42 #[.pointer (some ⟨rb, 0, none⟩), .int .i64 k] w fun e w' => e = .returned (.tuple #[ov (getT wh k t), .bool (T.fd (sd wh k) t).2]) ∧ (∃ vk' vv', Rm B w' rb wh vk' vv' (delT wh k t).xs ∧ (∀ g, vk'.ownBlock = some g → vk.ownBlock = some g ∨ w.heap.size ≤ g) ∧ (∀ g, vv'.ownBlock = some g → vv.ownBlock = some g ∨ w.heap.size ≤ g)) ∧ Kp (fun i => i = rb ∨ vv.ownBlock = some i) w w' := by
  cases hf : (T.fd (sd wh k) t).2 with
  | true =>
    obtain ⟨p, hp, hg⟩ := getT_some hf
    refine (rdel_yesN h hB ho k hl _ p (plc_yes hs hf) hp).mono ?_
    rintro e w' ⟨rfl, vk', vv', hr, hk⟩
    refine ⟨by rw [hg]; rfl, ⟨vk', vv', ?_, fun g h => .inr (own_low hr.ok h), fun g h => .inr (own_low hr.ov h)⟩, hk.mono (fun _ _ h => .inl h)⟩
    rw [del_xs, if_pos hf]; exact lower hr hB
  | false =>
    refine (rdel_noN h ho k hl (plc_no hs hf)).mono ?_
    rintro e w' ⟨rfl, hk⟩
    have hg : getT wh k t = none := by unfold getT; rw [hf]; rfl
    refine ⟨by rw [hg]; rfl, ⟨vk, vv, ?_, fun g h => .inl h, fun g h => .inl h⟩, hk.mono (fun _ _ h => h.elim)⟩
    rw [del_xs, hf]
    exact h.nu hk
end
end Go.Proofs.Ytchealdgncgjoaa.StM
namespace Go.Proofs.Ytchealdgncgjoaa.StM
open Go.RowKit Go.Proofs.Ytchealdgncgjoaa.St Go.Shelf Go.Sort Go.Proofs.Ytchealdgncgjoaa.It Go.Proofs.Ytchealdgncgjoaa.StI
set_option linter.unusedVariables false
set_option linter.unusedSimpArgs false
theorem plc_facts {wh : Int} {t : T (Int × Int)} (hs : Srt (cmpW wh) t.xs) (k : Int) (i : Nat) (p : Int × Int) (hp : t.xs[i]? = some p) :
    (cmpW wh p.1 k < 0 ↔ i < (T.fd (sd wh k) t).1) ∧ (cmpW wh p.1 k = 0 ↔ (i = (T.fd (sd wh k) t).1 ∧ (T.fd (sd wh k) t).2 = true)) := by
  have hf := T.fd_eq (sd wh k) t (hs.c (cmpW_ord wh) k)
  have h1 : (T.fd (sd wh k) t).1 = t.xs.countP (fun a => decide (0 < sd wh k a)) := by rw [hf]
  have h2 : (T.fd (sd wh k) t).2 = t.xs.any (fun a => decide (sd wh k a = 0)) := by rw [hf]
  rw [h1, h2]
  have hat : t.xs.any (fun a => decide (sd wh k a = 0)) = true → ∃ q, t.xs[t.xs.countP (fun a => decide (0 < sd wh k a))]? = some q ∧ cmpW wh k q.1 = 0 := fun h => hs.at (cmpW_ord wh) h
  obtain ⟨A, B, e, e1, e2, e3, e4⟩ := cut_c _ t.xs (hs.c (cmpW_ord wh) k)
  have an := (cmpW_ord wh).anti p.1 k
  have an' := (cmpW_ord wh).anti k p.1
  have e1' : t.xs.countP (fun a => decide (0 < sd wh k a)) = A.length := e1.symm
  rw [e1'] at hat ⊢
  have hi : i < t.xs.length := (List.getElem?_eq_some_iff.1 hp).1
  have hp0 := hp
  rcases Nat.lt_trichotomy i A.length with hlt | heq | hgt
  · rw [e, List.getElem?_append_left hlt] at hp
    have h3 := e2 p (List.mem_of_getElem? hp)
    have h3 : 0 < cmpW wh k p.1 := h3
    exact ⟨⟨fun _ => hlt, fun _ => an.2 h3⟩, ⟨fun h => by omega, fun h => by omega⟩⟩
  · rw [e, List.getElem?_append_right (by omega)] at hp
    have h3 := e3 p (List.mem_of_getElem? hp)
    have h3 : cmpW wh k p.1 ≤ 0 := h3
    refine ⟨⟨fun h => by omega, fun h => by omega⟩, ⟨fun h => ⟨heq, List.any_eq_true.2 ⟨p, List.mem_of_getElem? hp0, by
      have : cmpW wh k p.1 = 0 := by omega
      simpa [side] using this⟩⟩, fun h => ?_⟩⟩
    obtain ⟨q, hq, hk⟩ := hat h.2
    rw [← heq, hp0] at hq
    cases hq
    omega
  · rw [e, List.getElem?_append_right (by omega)] at hp
    have hb : p ∈ B.tail := by
      cases B with
      | nil => simp at hp
      | cons b B =>
        obtain ⟨j, hj⟩ : ∃ j, i - A.length = j + 1 := ⟨i - A.length - 1, by omega⟩
        rw [hj] at hp
        exact List.mem_of_getElem? (by simpa using hp)
    have h3 := e4 p hb
    have h3 : cmpW wh k p.1 < 0 := h3
    exact ⟨⟨fun h => by omega, fun h => by omega⟩, ⟨fun h => by omega, fun h => by omega⟩⟩
/-- the pair at a place -/
def atL (xs : List (Int × Int)) (i : Int) : Option (Int × Int) := if i < 0 then none else xs[i.toNat]?
theorem atT_L (t : T (Int × Int)) (i : Int) : atT t i = atL t.xs i := by
  unfold atL
  by_cases h : i < 0
  · rw [if_pos h, atT_neg t i h]
  · rw [if_neg h]
    have := atT_xs t i.toNat
    rwa [show ((i.toNat : Nat) : Int) = i by omega] at this
section
variable {B : Nat} {w : World} {rb : Nat} {wh : Int} {vk vv : Value} {xs : List (Int × Int)} {t : T (Int × Int)}
set_option maxRecDepth 100000 in
set_option maxHeartbeats 1000000 in
theorem get132 (h : Rm B w rb wh vk vv t.xs) (ho : Oc wh (cmpW wh)) (hs : Srt (cmpW wh) t.xs) (k : Int) (hl : t.xs.length ≤ 17592186044000) :
    Calls Try.prog 132 #[.pointer (some ⟨rb, 0, none⟩), .int .i64 k] w fun e w' => e = .returned (.tuple #[ov (getT wh k t), .bool (T.fd (sd wh k) t).2]) ∧ Kp Nu w w' := by
  have RA := rat_any h ho k (by omega)
  cases hf : (T.fd (sd wh k) t).2 with
  | true =>
    obtain ⟨p, hp, hg⟩ := getT_some hf
    rw [plc_yes hs hf] at RA
    rw [hg]
    show Calls Try.prog 132 #[.pointer (some ⟨rb, 0, none⟩), .int .i64 k] w fun e w' => e = .returned (.tuple #[.int .i64 p.2, .bool true]) ∧ Kp Nu w w'
    have HS : ∀ W, Kp Nu w W → ∃ r cap, W.cell? ⟨rb, 2, none⟩ = some (.slice (some ⟨r, 0, none⟩) t.xs.length cap) ∧ W.cell? ⟨r, (T.fd (sd wh k) t).1, none⟩ = some (.int .i64 p.2) := fun W q => by
      obtain ⟨_, _, d2⟩ := cell3 (h.nu q).blk
      obtain ⟨r, cap, e, hc⟩ := rowI_at (i := (T.fd (sd wh k) t).1) (u := .int .i64 p.2) (h.nu q).ov (by simp [vvs]) (by simp [vvs, hp])
      rw [e] at d2
      exact ⟨r, cap, d2, hc⟩
    have hlt : (T.fd (sd wh k) t).1 < t.xs.length := (List.getElem?_eq_some_iff.1 hp).1
    generalize (T.fd (sd wh k) t).1 = i at *
    generalize t.xs.length = N at *
    have hlI : (i : Int) < (N : Int) := by omega
    have hi0 : (0 : Int) ≤ (i : Int) := by omega
    clear h ho hs hf hg hp hlt hl
    go_enter Try.func132, Try.ntmps132
    go_wp2_with fail
    refine RA.mono ?_
    rintro e w1 ⟨rfl, k1⟩
    obtain ⟨r, cap, c2, c3⟩ := HS w1 k1
    clear RA HS
    go_wp2_with fail
    go_ret2
    exact ⟨rfl, k1⟩
  | false =>
    have hg : getT wh k t = none := by unfold getT; rw [hf]; rfl
    rw [plc_no hs hf] at RA
    rw [hg]
    clear h ho hs hf hg hl
    go_enter Try.func132, Try.ntmps132
    go_wp2_with fail
    refine RA.mono ?_
    rintro e w1 ⟨rfl, k1⟩
    clear RA
    go_wp2_with fail
    go_ret2
    exact ⟨rfl, k1⟩
set_option maxRecDepth 100000 in
set_option maxHeartbeats 1000000 in
theorem at180 (h : Rm B w rb wh vk vv xs) (i : Int) (hl : xs.length ≤ 17592186044000) :
    Calls Try.prog 180 #[.pointer (some ⟨rb, 0, none⟩), .int .i64 i] w fun e w' => e = .returned (.tuple #[ok (atL xs i), ov (atL xs i), .bool (atL xs i).isSome]) ∧ ∃ q, w' = w.drewN q := by
  have mixed : Try.prog.follows .mixedOrders = true := by kernel_rfl
  obtain ⟨adk, capk, ek⟩ := own_slice h.ok
  obtain ⟨adv, capv, ev⟩ := own_slice h.ov
  obtain ⟨_, d1, d2⟩ := cell3 h.blk
  rw [ek] at d1
  rw [ev] at d2
  by_cases h0 : i < 0
  · have e : atL xs i = none := by unfold atL; rw [if_pos h0]
    rw [e]
    clear h ek ev d1 d2 e
    go_enter Try.func180, Try.ntmps180
    go_wp2_with fail
    go_ret3
    exact ⟨rfl, 0, rfl⟩
  · by_cases h1 : i < (xs.length : Int)
    · obtain ⟨j, rfl⟩ : ∃ j : Nat, i = (j : Int) := ⟨i.toNat, by omega⟩
      obtain ⟨p, hp⟩ : ∃ p, xs[j]? = some p := ⟨_, List.getElem?_eq_getElem (by omega)⟩
      have e : atL xs (j : Int) = some p := by unfold atL; rw [if_neg h0]; simpa using hp
      rw [e]
      show Calls Try.prog 180 #[.pointer (some ⟨rb, 0, none⟩), .int .i64 (j : Int)] w fun e w' => e = .returned (.tuple #[.int .i64 p.1, .int .i64 p.2, .bool true]) ∧ ∃ q, w' = w.drewN q
      obtain ⟨r, cap, e1, hc⟩ := rowI_at (i := j) (u := .int .i64 p.1) h.ok (by simp [kv]) (by simp [kv, hp])
      obtain ⟨r2, cap2, e2, hc2⟩ := rowI_at (i := j) (u := .int .i64 p.2) h.ov (by simp [vvs]) (by simp [vvs, hp])
      rw [ek] at e1
      rw [ev] at e2
      cases e1
      cases e2
      generalize xs.length = N at *
      have g1 : ¬ (j : Int) ≥ (N : Int) := by omega
      have g2 : decide ((j : Int) < 0) = false := by simp
      clear h ek ev hp e hl
      go_enter Try.func180, Try.ntmps180
      go_wp2_with fail
      go_quiet (fail)
      go_wp2_with fail
      go_ret3
      exact ⟨rfl, nq, rfl⟩
    · have e : atL xs i = none := by unfold atL; rw [if_neg h0]; exact List.getElem?_eq_none (by omega)
      rw [e]
      generalize xs.length = N at *
      have g1 : i ≥ (N : Int) := by omega
      have g2 : decide (i < 0) = false := by simpa using h0
      clear h ek ev d2 e hl h1
      go_enter Try.func180, Try.ntmps180
      go_wp2_with fail
      go_ret3
      exact ⟨rfl, 0, rfl⟩
end
end Go.Proofs.Ytchealdgncgjoaa.StM
