import Derived.Test.YtbhdhoeaogbfbaaEnM
import Derived.Test.YtbhdhoeaogbfbaaEnL
import Derived.Deep.RegionHeld3
namespace Go.Proofs.Ytbhdhoeaogbfbaa.Xo
open Go.RowKit
set_option linter.unusedVariables false
section
variable {B eb pb : Nat} {w w' : World} {me qn wn : Int} {ps : List Pr}
set_option maxRecDepth 100000 in
set_option maxHeartbeats 4000000 in
theorem take_ack (h : En B w eb pb me qn wn ps) (t : Nat) (p : Pr) (hk : ps[t]? = some p) (hs : (t : Int) ≠ me) (hm0 : 0 < p.qs.length) (hmw : (p.qs.length : Int) ≤ wn) :
    Calls Try.prog 32 #[.pointer (some ⟨eb, 0, none⟩), .int .u8 (t : Int), ackV p.sent] w fun e w' => ∃ q', e = .returned (.tuple #[.agg #[.slice none 0 0, .slice none 0 0, .bool true], .int .i64 0]) ∧ En B w' eb pb me qn wn (ps.set t ⟨p.sent, p.sent, q', [], 0, p.dlv, p.e⟩) ∧ Kp (fun i => B ≤ i) w w' := by
  have hl : t < ps.length := (List.getElem?_eq_some_iff.1 hk).1
  have MA := fun W (k : Kp Nu w W) => made_any (h.nu k)
  have PE := fun W (k : Kp Nu w W) => peer_any (h.nu k) t hl hs
  have TA := fun W (k : Kp Nu w W) => takeAck_all (h.nu k).row t p hk ((h.nu k).pw t p hk) p.qs.length rfl hm0 (by have := h.w1; have := h.q1; omega) wn hmw (t : Int) (fun W' k' => delete_all p.qs.length hm0 (by have := h.w1; have := h.q1; omega) p.q _ (own_keep ((h.nu k).pw t p hk).own (fun g hg => k'.block g (own_lt ((h.nu k).pw t p hk).own hg) (fun h => h))))
  have C2 := fun W (k : Kp Nu w W) => (h.nu k).c2
  have HH := hide h
  clear h hs hm0 hmw hl
  unfold ackV at *
  go_enter Try.func32, Try.ntmps32
  go_wp2_with (first | (go_at_call 50; refine (MA _ (((Kp.refl _ w).andAlloc _).andAlloc _)).mono ?_; rintro e w1 ⟨rfl, hw1⟩; obtain rfl := hw1.symm; clear MA) | (go_at_call 53; refine (PE _ (((Kp.refl _ w).andAlloc _).andAlloc _)).mono ?_; rintro e w2 ⟨rfl, hw2⟩; obtain rfl := hw2.symm; clear PE))
  have hE0 := HH.out
  have hpw := hE0.pw t p hk
  have hb0 : ((w.alloc (.cells #[.int .u8 11, .int .u64 p.sent, .int .u64 0, .int .u64 0, .slice none 0 0, .slice none 0 0, .bool false, .int .u8 0, .int .u8 0, .int .u8 0, .int .u32 0, .int .u32 0, .int .u64 0, .int .u8 0, .slice none 0 0, .slice none 0 0, .slice none 0 0] 57)).alloc (.cells #[.slice none 0 0, .slice none 0 0, .bool false] 74)).heap[w.heap.size]? = some (.cells #[.int .u8 11, .int .u64 p.sent, .int .u64 0, .int .u64 0, .slice none 0 0, .slice none 0 0, .bool false, .int .u8 0, .int .u8 0, .int .u8 0, .int .u32 0, .int .u32 0, .int .u64 0, .int .u8 0, .slice none 0 0, .slice none 0 0, .slice none 0 0] 57) := (Below.heap_alloc _ _ _ (by simp)).trans (heap_alloc_new w _)
  have ht0 : ((w.alloc (.cells #[.int .u8 11, .int .u64 p.sent, .int .u64 0, .int .u64 0, .slice none 0 0, .slice none 0 0, .bool false, .int .u8 0, .int .u8 0, .int .u8 0, .int .u32 0, .int .u32 0, .int .u64 0, .int .u8 0, .slice none 0 0, .slice none 0 0, .slice none 0 0] 57)).alloc (.cells #[.slice none 0 0, .slice none 0 0, .bool false] 74)).heap[w.heap.size + 1]? = some (.cells #[.slice none 0 0, .slice none 0 0, .bool false] 74) := by
    have h0 := heap_alloc_new (w.alloc (.cells #[.int .u8 11, .int .u64 p.sent, .int .u64 0, .int .u64 0, .slice none 0 0, .slice none 0 0, .bool false, .int .u8 0, .int .u8 0, .int .u8 0, .int .u32 0, .int .u32 0, .int .u64 0, .int .u8 0, .slice none 0 0, .slice none 0 0, .slice none 0 0] 57)) (.cells #[.slice none 0 0, .slice none 0 0, .bool false] 74)
    have e0 : (w.alloc (.cells #[.int .u8 11, .int .u64 p.sent, .int .u64 0, .int .u64 0, .slice none 0 0, .slice none 0 0, .bool false, .int .u8 0, .int .u8 0, .int .u8 0, .int .u32 0, .int .u32 0, .int .u64 0, .int .u8 0, .slice none 0 0, .slice none 0 0, .slice none 0 0] 57)).heap.size = w.heap.size + 1 := by simp
    rwa [e0] at h0
  have hsz0 : ((w.alloc (.cells #[.int .u8 11, .int .u64 p.sent, .int .u64 0, .int .u64 0, .slice none 0 0, .slice none 0 0, .bool false, .int .u8 0, .int .u8 0, .int .u8 0, .int .u32 0, .int .u32 0, .int .u64 0, .int .u8 0, .slice none 0 0, .slice none 0 0, .slice none 0 0] 57)).alloc (.cells #[.slice none 0 0, .slice none 0 0, .bool false] 74)).heap.size = w.heap.size + 2 := by simp
  have k00 : Kp Nu w ((w.alloc (.cells #[.int .u8 11, .int .u64 p.sent, .int .u64 0, .int .u64 0, .slice none 0 0, .slice none 0 0, .bool false, .int .u8 0, .int .u8 0, .int .u8 0, .int .u32 0, .int .u32 0, .int .u64 0, .int .u8 0, .slice none 0 0, .slice none 0 0, .slice none 0 0] 57)).alloc (.cells #[.slice none 0 0, .slice none 0 0, .bool false] 74)) := ((Kp.refl _ w).andAlloc _).andAlloc _
  have c20 : ((w.alloc (.cells #[.int .u8 11, .int .u64 p.sent, .int .u64 0, .int .u64 0, .slice none 0 0, .slice none 0 0, .bool false, .int .u8 0, .int .u8 0, .int .u8 0, .int .u32 0, .int .u32 0, .int .u64 0, .int .u8 0, .slice none 0 0, .slice none 0 0, .slice none 0 0] 57)).alloc (.cells #[.slice none 0 0, .slice none 0 0, .bool false] 74)).cell? ⟨eb, 2, none⟩ = some (.int .i64 wn) := C2 _ k00
  have TA0 := fun W (kW : Kp Nu ((w.alloc (.cells #[.int .u8 11, .int .u64 p.sent, .int .u64 0, .int .u64 0, .slice none 0 0, .slice none 0 0, .bool false, .int .u8 0, .int .u8 0, .int .u8 0, .int .u32 0, .int .u32 0, .int .u64 0, .int .u8 0, .slice none 0 0, .slice none 0 0, .slice none 0 0] 57)).alloc (.cells #[.slice none 0 0, .slice none 0 0, .bool false] 74)) W) => TA W (k00.andNu kW)
  generalize ((w.alloc (.cells #[.int .u8 11, .int .u64 p.sent, .int .u64 0, .int .u64 0, .slice none 0 0, .slice none 0 0, .bool false, .int .u8 0, .int .u8 0, .int .u8 0, .int .u32 0, .int .u32 0, .int .u64 0, .int .u8 0, .slice none 0 0, .slice none 0 0, .slice none 0 0] 57)).alloc (.cells #[.slice none 0 0, .slice none 0 0, .bool false] 74)) = W0 at *
  have hpl := blk_lt hE0.row
  have hel := blk_lt hE0.blk
  have hql : ∀ g, some g = p.q.ownBlock → g < w.heap.size := fun g hg => own_lt hpw.own hg.symm
  have HS : ∀ W, Kp (fun i => i = pb ∨ some i = p.q.ownBlock ∨ i = w.heap.size + 1) W0 W → W.cell? ⟨w.heap.size, 0, none⟩ = some (.int .u8 11) ∧ W.cell? ⟨w.heap.size, 1, none⟩ = some (.int .u64 p.sent) ∧ W.cell? ⟨w.heap.size, 2, none⟩ = some (.int .u64 0) ∧ W.cell? ⟨w.heap.size, 3, none⟩ = some (.int .u64 0) ∧ W.cell? ⟨w.heap.size, 4, none⟩ = some (.slice none 0 0) ∧ W.cell? ⟨w.heap.size, 5, none⟩ = some (.slice none 0 0) ∧ W.cell? ⟨w.heap.size, 6, none⟩ = some (.bool false) ∧ W.cell? ⟨w.heap.size, 7, none⟩ = some (.int .u8 0) ∧ W.cell? ⟨w.heap.size, 8, none⟩ = some (.int .u8 0) ∧ W.cell? ⟨w.heap.size, 9, none⟩ = some (.int .u8 0) ∧ W.cell? ⟨w.heap.size, 10, none⟩ = some (.int .u32 0) ∧ W.cell? ⟨w.heap.size, 11, none⟩ = some (.int .u32 0) ∧ W.cell? ⟨w.heap.size, 12, none⟩ = some (.int .u64 0) ∧ W.cell? ⟨w.heap.size, 13, none⟩ = some (.int .u8 0) ∧ W.cell? ⟨w.heap.size, 14, none⟩ = some (.slice none 0 0) ∧ W.cell? ⟨w.heap.size, 15, none⟩ = some (.slice none 0 0) ∧ W.cell? ⟨w.heap.size, 16, none⟩ = some (.slice none 0 0) ∧ W.cell? ⟨eb, 2, none⟩ = some (.int .i64 wn) := fun W kW => by
    have hbW : W.heap[w.heap.size]? = some (.cells #[.int .u8 11, .int .u64 p.sent, .int .u64 0, .int .u64 0, .slice none 0 0, .slice none 0 0, .bool false, .int .u8 0, .int .u8 0, .int .u8 0, .int .u32 0, .int .u32 0, .int .u64 0, .int .u8 0, .slice none 0 0, .slice none 0 0, .slice none 0 0] 57) := (kW.block _ (by omega) (by
      rintro (e | e | e)
      · omega
      · have := hql _ e; omega
      · omega)).trans hb0
    have hcW : W.cell? ⟨eb, 2, none⟩ = some (.int .i64 wn) := (World.cell?_of_block (kW.block eb (by omega) (by
      rintro (e | e | e)
      · exact hE0.row.ne hE0.blk (by decide) e
      · obtain ⟨cur, hc⟩ := own_obj hpw.own e.symm
        rw [hE0.blk] at hc; cases hc
      · omega))).trans c20
    exact ⟨cellAt hbW 0 rfl, cellAt hbW 1 rfl, cellAt hbW 2 rfl, cellAt hbW 3 rfl, cellAt hbW 4 rfl, cellAt hbW 5 rfl, cellAt hbW 6 rfl, cellAt hbW 7 rfl, cellAt hbW 8 rfl, cellAt hbW 9 rfl, cellAt hbW 10 rfl, cellAt hbW 11 rfl, cellAt hbW 12 rfl, cellAt hbW 13 rfl, cellAt hbW 14 rfl, cellAt hbW 15 rfl, cellAt hbW 16 rfl, hcW⟩
  have TW : ∀ W, Kp Nu W0 W → Calls Try.prog 67 #[.pointer (some ⟨pb, t * 6, none⟩), .int .u8 (t : Int), .agg #[.int .u8 11, .int .u64 p.sent, .int .u64 0, .int .u64 0, .slice none 0 0, .slice none 0 0, .bool false, .int .u8 0, .int .u8 0, .int .u8 0, .int .u32 0, .int .u32 0, .int .u64 0, .int .u8 0, .slice none 0 0, .slice none 0 0, .slice none 0 0], .int .i64 wn] W fun e w' => e = .returned (.tuple #[.agg #[.slice none 0 0, .slice none 0 0, .bool true], .int .i64 0]) ∧ Kp (fun i => i = pb ∨ some i = p.q.ownBlock ∨ i = w.heap.size + 1) W0 w' ∧ Hid (w'.heap[w.heap.size + 1]? = some (.cells #[.slice none 0 0, .slice none 0 0, .bool false] 74) ∧ ∃ q', Row w' pb 123 (ps.set t ⟨p.sent, p.sent, q', [], 0, p.dlv, p.e⟩) ∧ Pw w' B ⟨p.sent, p.sent, q', [], 0, p.dlv, p.e⟩ ∧ Kp (fun i => i = pb ∨ some i = p.q.ownBlock) w w' ∧ q'.ownBlock = p.q.ownBlock) := fun W kW => by
    refine (TA0 W kW).mono ?_
    rintro e w' ⟨q', rfl, hr, hw, hkp, hq⟩
    refine ⟨rfl, (kW.mono (fun _ _ e => e.elim)).trans hkp (fun i _ e => ?_), ?_, q', hr, hw, ((k00.andNu kW).mono (fun _ _ e => e.elim)).trans hkp (fun _ _ e => e), hq⟩
    · rcases e with e | e
      · exact .inl e
      · exact .inr (.inl e)
    · exact (hkp.block _ (by have := kW.size; omega) (by
        rintro (e | e)
        · omega
        · have := hql _ e; omega)).trans ((kW.block _ (by omega) (fun h => h)).trans ht0)
  clear TA TA0 C2 hE0 hpw hb0 ht0 c20 hpl hel hql
  go_region_held3 (fun W => W.cell? ⟨w.heap.size, 0, none⟩ = some (.int .u8 11) ∧ W.cell? ⟨w.heap.size, 1, none⟩ = some (.int .u64 p.sent) ∧ W.cell? ⟨w.heap.size, 2, none⟩ = some (.int .u64 0) ∧ W.cell? ⟨w.heap.size, 3, none⟩ = some (.int .u64 0) ∧ W.cell? ⟨w.heap.size, 4, none⟩ = some (.slice none 0 0) ∧ W.cell? ⟨w.heap.size, 5, none⟩ = some (.slice none 0 0) ∧ W.cell? ⟨w.heap.size, 6, none⟩ = some (.bool false) ∧ W.cell? ⟨w.heap.size, 7, none⟩ = some (.int .u8 0) ∧ W.cell? ⟨w.heap.size, 8, none⟩ = some (.int .u8 0) ∧ W.cell? ⟨w.heap.size, 9, none⟩ = some (.int .u8 0) ∧ W.cell? ⟨w.heap.size, 10, none⟩ = some (.int .u32 0) ∧ W.cell? ⟨w.heap.size, 11, none⟩ = some (.int .u32 0) ∧ W.cell? ⟨w.heap.size, 12, none⟩ = some (.int .u64 0) ∧ W.cell? ⟨w.heap.size, 13, none⟩ = some (.int .u8 0) ∧ W.cell? ⟨w.heap.size, 14, none⟩ = some (.slice none 0 0) ∧ W.cell? ⟨w.heap.size, 15, none⟩ = some (.slice none 0 0) ∧ W.cell? ⟨w.heap.size, 16, none⟩ = some (.slice none 0 0) ∧ W.cell? ⟨eb, 2, none⟩ = some (.int .i64 wn)) (first | (refine HS _ ?_; repeat (first | assumption | exact Kp.refl _ _ | apply Kp.drew | (refine Kp.andSet ?_ _ _ (.inr (.inr (.inr rfl))))))) (first | (go_at_call 67; refine (TW _ ?_).mono ?_; (repeat (first | assumption | exact Kp.refl _ _ | apply Kp.drew)); rintro e w6 ⟨rfl, hk6, H6⟩; have v0 := cellAt (v := .slice none 0 0) H6.out.1 0 rfl; have v1 := cellAt (v := .slice none 0 0) H6.out.1 1 rfl; have v2 := cellAt (v := .bool false) H6.out.1 2 rfl; have e0 := free3 H6.out.1 0; have e1 := free3 H6.out.1 1; have e2 := free3 H6.out.1 2))
  have hb7 := set3 (set3 (set3 H6.out.1 0 (.slice none 0 0)) 1 (.slice none 0 0)) 2 (.bool true)
  have hb8 : (((w6.setCell ⟨w.heap.size + 1, 0, none⟩ (.slice none 0 0)).setCell ⟨w.heap.size + 1, 1, none⟩ (.slice none 0 0)).setCell ⟨w.heap.size + 1, 2, none⟩ (.bool true)).heap[w.heap.size + 1]? = some (.cells #[.slice none 0 0, .slice none 0 0, .bool true] 74 (0, 0)) := hb7
  have k67 : Kp (fun i => i = w.heap.size + 1) w6 (((w6.setCell ⟨w.heap.size + 1, 0, none⟩ (.slice none 0 0)).setCell ⟨w.heap.size + 1, 1, none⟩ (.slice none 0 0)).setCell ⟨w.heap.size + 1, 2, none⟩ (.bool true)) := (Kp.refl _ _).put.put.put
  clear hb7 v0 v1 v2 e0 e1 e2 TW HS
  generalize ((w6.setCell ⟨w.heap.size + 1, 0, none⟩ (.slice none 0 0)).setCell ⟨w.heap.size + 1, 1, none⟩ (.slice none 0 0)).setCell ⟨w.heap.size + 1, 2, none⟩ (.bool true) = W7 at *
  go_wp2
  have hl := run_loadVar_row (P := Try.prog) W7 (w.heap.size + 1) 74 74 #[.slice none 0 0, .slice none 0 0, .bool true] (0, 0) _ hb8 Try.underlying74 rfl info74
  refine bodyPost_ret (results_two rfl _ W7 _ (.int .i64 0) _ rfl rfl hl) rfl ?_
  obtain ⟨_, q', hr, hw, hkp, hq⟩ := H6.out
  have hE := HH.out
  have hpw := hE.pw t p hk
  have npb : pb ≠ w.heap.size + 1 := by have := blk_lt hE.row; omega
  have kw7 : Kp (fun i => i = pb ∨ some i = p.q.ownBlock) w W7 := hkp.trans k67 (fun i hi e => by have e : i = w.heap.size + 1 := e; omega)
  have hr7 : Row W7 pb 123 (ps.set t ⟨p.sent, p.sent, q', [], 0, p.dlv, p.e⟩) := hr.keep (k67.block _ (blk_lt hr) (fun e => npb e))
  have hw7 : Pw W7 B ⟨p.sent, p.sent, q', [], 0, p.dlv, p.e⟩ := ⟨own_keep hw.own (fun g hg => k67.block g (own_lt hw.own hg) (fun e => by
    have := own_lt hpw.own (hq.symm.trans hg)
    have e : g = w.heap.size + 1 := e
    omega)), by simp, hw.e0, hw.nums, hw.a0, hw.s1⟩
  refine ⟨q', rfl, hE.turn hk kw7 hr7 hw7 (.inl hq), kw7.mono (fun i _ e => ?_)⟩
  rcases e with rfl | e
  · exact hE.hp
  · exact own_ge hpw.own e.symm
end
end Go.Proofs.Ytbhdhoeaogbfbaa.Xo
