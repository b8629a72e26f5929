import Derived.Test.YtchealdgncgjoaaRmD
import Derived.Test.YtchealdgncgjoaaRmE
import Derived.Test.YtchealdgncgjoaaRmF
import Derived.Test.YtchealdgncgjoaaRmG
import Derived.Test.YtchealdgncgjoaaMpBI
namespace Go.Proofs.Ytchealdgncgjoaa.StI
open Go.RowKit Go.Proofs.Ytchealdgncgjoaa.St Go.Shelf
set_option linter.unusedVariables false
set_option linter.unusedSimpArgs false
/-- the document's map and the program's find a key at the same place -/
theorem ahead_fd {t : T (Int × Int)} (hs : Srt cmpI t.xs) (k : Int) : ahead cmpI k t.xs t.xs.length = (T.fd (sd k) t).1 := by
  rw [T.fd_eq (sd k) t (hs.c cmpI_ord k)]
  unfold ahead
  rw [List.take_length]
  refine List.countP_congr (fun p _ => ?_)
  have := cmpI_ord.anti p.1 k
  simp only [decide_eq_true_eq]
  exact this
theorem plc_yes {t : T (Int × Int)} (hs : Srt cmpI t.xs) {k : Int} (h : (T.fd (sd k) t).2 = true) : plc cmpI k t.xs = ((T.fd (sd k) t).1 : Int) := by
  have hf := T.fd_eq (sd k) t (hs.c cmpI_ord k)
  have h2 : t.xs.any (fun a => decide (sd k a = 0)) = true := by rw [← h, hf]
  obtain ⟨p, hp, hk⟩ := hs.at cmpI_ord h2
  have h1 : (T.fd (sd k) t).1 = t.xs.countP (fun a => decide (0 < sd k a)) := by rw [hf]
  unfold plc
  rw [ahead_fd hs k, h1, hp]
  have : cmpI p.1 k = 0 := cmpI_ord.sym0.1 hk
  simp only [this, if_true]
theorem plc_no {t : T (Int × Int)} (hs : Srt cmpI t.xs) {k : Int} (h : (T.fd (sd k) t).2 = false) : plc cmpI k t.xs = -1 := by
  have hf := T.fd_eq (sd k) t (hs.c cmpI_ord k)
  have h2 : t.xs.any (fun a => decide (sd k a = 0)) = false := by rw [← h, hf]
  unfold plc
  split
  · rename_i p hp
    rw [if_neg]
    intro h0
    have := List.any_eq_false.1 h2 p (List.mem_of_getElem? hp)
    exact this (by simpa using cmpI_ord.sym0.1 h0)
  · rfl
section
variable {B : Nat} {w w' : World} {rb mb : Nat} {wh : Int} {vk vv : Value} {xs : List (Int × Int)} {t : T (Int × Int)}
/-- a write to the program's map leaves the document's as it was -/
theorem Rm.keepM (h : Rm B w rb wh vk vv xs) (hm : Mp w mb t) (k : Kp (fun i => i = mb) w w') : Rm B w' rb wh vk vv xs := by
  obtain ⟨a, h1, _⟩ := hm.ex
  have hn : ∀ g c ty p, w.heap[g]? = some (.cells c ty p) → ty ≠ 130 → g ≠ mb := fun g c ty p hg hty e => by
    rw [e, h1] at hg; cases hg; exact hty rfl
  refine ⟨(k.block _ (blk_lt h.blk) (hn _ _ _ _ h.blk (by decide))).trans h.blk, own_keep h.ok (fun g hg => ?_), own_keep h.ov (fun g hg => ?_), h.apart⟩
  · obtain ⟨cur, hc⟩ := own_obj h.ok hg
    exact k.block g (blk_lt hc) (hn _ _ _ _ hc (by decide))
  · obtain ⟨cur, hc⟩ := own_obj h.ov hg
    exact k.block g (blk_lt hc) (hn _ _ _ _ hc (by decide))
/-- a write to the document's map leaves the program's as it was -/
theorem Mp.keepR (hm : Mp w mb t) (h : Rm B w rb wh vk vv xs) (k : Kp (fun i => i = rb ∨ vv.ownBlock = some i) w w') : Mp w' mb t := by
  obtain ⟨a, h1, h2⟩ := hm.ex
  have hn : ∀ g c ty p, w.heap[g]? = some (.cells c ty p) → ty ≠ 52 → ty ≠ 3 → ¬ (g = rb ∨ vv.ownBlock = some g) := fun g c ty p hg t1 t2 e => by
    rcases e with e | e
    · rw [e, h.blk] at hg; cases hg; exact t1 rfl
    · obtain ⟨cur, hc⟩ := own_obj h.ov e
      rw [hc] at hg; cases hg; exact t2 rfl
  exact ⟨⟨a, (k.block _ (blk_lt h1) (hn _ _ _ _ h1 (by decide) (by decide))).trans h1, h2.keep (Kn.of k (fun b c hb => hn _ _ _ _ hb (by decide) (by decide)))⟩, hm.bal, hm.srt⟩
/-- the document's Put, told by the program's -/
theorem rput_T (h : Rm B w rb 0 vk vv t.xs) (hs : Srt cmpI t.xs) (hB : B ≤ w.heap.size) (k v : Int) (hl : t.xs.length ≤ 17592186043904) :
    Calls Try.prog 36 #[.pointer (some ⟨rb, 0, none⟩), .int .i64 k, .int .i64 v] w fun e w' => e = .returned (.tuple #[ov (getT k t), .bool (T.fd (sd k) t).2]) ∧ (∃ vk' vv', Rm B w' rb 0 vk' vv' (putT k v t).xs) ∧ Kp (fun i => i = rb ∨ vv.ownBlock = some i) w w' := by
  cases hf : (T.fd (sd k) t).2 with
  | true =>
    obtain ⟨p, hp, hg⟩ := getT_some hf
    refine (rput_old h order_0 k v hl _ p (plc_yes hs hf) hp).mono ?_
    rintro e w' ⟨rfl, hr, hk⟩
    refine ⟨by rw [hg]; rfl, ⟨vk, vv, ?_⟩, hk.mono (fun _ _ h => .inr h)⟩
    rw [put_xs, if_pos hf]; exact hr
  | false =>
    refine (rput_new h hB order_0 k v hl (plc_no hs hf)).mono ?_
    rintro e w' ⟨rfl, ⟨vk', vv', hr, hk⟩⟩
    have hg : getT k t = none := by unfold getT; rw [hf]; rfl
    refine ⟨by rw [hg]; rfl, ⟨vk', vv', ?_⟩, hk.mono (fun _ _ h => .inl h)⟩
    rw [put_xs, hf]
    rw [ahead_fd hs k] at hr
    exact hr
/-- the document's Delete, told by the program's -/
theorem rdel_T (h : Rm B w rb 0 vk vv t.xs) (hs : Srt cmpI t.xs) (hB : B ≤ w.heap.size) (k : Int) (hl : t.xs.length ≤ 17592186043904) :
    Calls Try.prog 42 #[.pointer (some ⟨rb, 0, none⟩), .int .i64 k] w fun e w' => e = .returned (.tuple #[ov (getT k t), .bool (T.fd (sd k) t).2]) ∧ (∃ vk' vv', Rm B w' rb 0 vk' vv' (delT k t).xs) ∧ Kp (fun i => i = rb ∨ vv.ownBlock = some i) w w' := by
  cases hf : (T.fd (sd k) t).2 with
  | true =>
    obtain ⟨p, hp, hg⟩ := getT_some hf
    refine (rdel_yes h hB order_0 k hl _ p (plc_yes hs hf) hp).mono ?_
    rintro e w' ⟨rfl, vk', vv', hr, hk⟩
    refine ⟨by rw [hg]; rfl, ⟨vk', vv', ?_⟩, hk.mono (fun _ _ h => .inl h)⟩
    rw [del_xs, if_pos hf]; exact hr
  | false =>
    refine (rdel_no h order_0 k hl (plc_no hs hf)).mono ?_
    rintro e w' ⟨rfl, hk⟩
    have hg : getT k t = none := by unfold getT; rw [hf]; rfl
    refine ⟨by rw [hg]; rfl, ⟨vk, vv, ?_⟩, hk.mono (fun _ _ h => h.elim)⟩
    rw [del_xs, hf]
    exact h.nu hk
end
end Go.Proofs.Ytchealdgncgjoaa.StI
