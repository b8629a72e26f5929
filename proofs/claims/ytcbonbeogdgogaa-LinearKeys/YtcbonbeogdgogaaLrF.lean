import Derived.Test.YtcbonbeogdgogaaLrE
import Derived.Test.YtcbonbeogdgogaaLrC
namespace Go.Proofs.Ytcbonbeogdgogaa.Li
open Go.RowKit
set_option linter.unusedVariables false
def cq (c : Ca) : Cv := ⟨true, c.va, c.V.length, c.vc, c.V⟩
def q0 : Cv := ⟨false, none, 0, 0, []⟩
/-- the cells that a key can have -/
def cqs (L : List Ca) : List Cv := q0 :: L.map cq
theorem cqs_len (L : List Ca) : (cqs L).length = L.length + 1 := by simp [cqs]
theorem cqs_ok {w : World} {L : List Ca} (h : ∀ c ∈ L, CaOk w c) : ∀ q ∈ cqs L, CvOk w q := fun q hq => by
  rcases List.mem_cons.1 hq with rfl | hq
  · exact ⟨By.nil w, fun _ => rfl⟩
  · obtain ⟨c, hc, rfl⟩ := List.mem_map.1 hq
    exact ⟨(h c hc).v, fun e => by cases e⟩
theorem cls_ok {w : World} {u : Value} {L : List Ca} (h : Cls w u L) : ∀ c ∈ L, CaOk w c := fun c hc => by
  obtain ⟨i, hi⟩ := List.getElem?_of_mem hc
  obtain ⟨_, _, _, _, _, ok⟩ := cls_at h hi
  exact ok
set_option maxRecDepth 100000 in
set_option maxHeartbeats 4000000 in
theorem cellsOf87 (w : World) (u : Value) (L : List Ca) (hL : Cls w u L) (hN : L.length ≤ 16) :
    Calls Try.prog 87 #[u] w fun e w' => ∃ v, e = .returned v ∧ w'.ownsRow w.heap.size 64 2 v (cqs L).length (flatq (cqs L)) ∧ Kp Nu w w' := by
  obtain ⟨i0, hiT, hz0, hz1, hz2⟩ := info_parts info64z
  obtain ⟨ua, uc, rfl⟩ := hL.slice
  obtain ⟨N, eN⟩ : ∃ N, L.length = N := ⟨_, rfl⟩
  have HL := hide (And.intro hL eN)
  rw [eN] at hN ⊢
  have hNI : (N : Int) ≤ 16 := by omega
  have H0 : Hid ((w.alloc (.cells #[.bool false, .slice none 0 0] 64)).ownsRow w.heap.size 64 2 (.slice (some ⟨w.heap.size, 0, none⟩) (0 + 1) 1) (0 + 1) (flatq (cqs (L.take 0))) ∧ Kp Nu w (w.alloc (.cells #[.bool false, .slice none 0 0] 64))) := hide ⟨⟨rfl, .inr ⟨w.heap.size, 1, _, rfl, Nat.le_refl _, heap_new w _, Nat.le_refl _, by decide, rfl, rfl⟩⟩, Kp.alloc _ _ _⟩
  clear hL eN hN
  go_enter Try.func87, Try.ntmps87
  go_wp2
  go_loopw [3, 10] (fun lv iv wr => ∃ (i : Nat) (ad : Option Addr) (cp : Nat), iv = .int .i64 (i : Int) ∧ lv = .slice ad (i + 1) cp ∧ i ≤ N ∧ Hid (wr.ownsRow w.heap.size 64 2 (.slice ad (i + 1) cp) (i + 1) (flatq (cqs (L.take i))) ∧ Kp Nu w wr)) (fun _ iv _ => N - (intOf iv).toNat)
  case atStart => exact ⟨0, _, _, rfl, rfl, Nat.zero_le _, H0⟩
  case round =>
    obtain ⟨i, ad, cp, rfl, rfl, hi, hI⟩ := hrel
    have hi0 : (0 : Int) ≤ (i : Int) := by omega
    have eti : (i : Int).toNat = i := by omega
    by_cases hlt : i < N
    · have hltI : (i : Int) < (N : Int) := by omega
      obtain ⟨c, hc⟩ : ∃ c, L[i]? = some c := ⟨_, List.getElem?_eq_getElem (by rw [HL.out.2]; exact hlt)⟩
      obtain ⟨b, off, cap, eu, hR, ok⟩ := cls_at (HL.out.1.nu hI.out.2) hc
      rw [HL.out.2] at eu
      simp only [Value.slice.injEq, true_and] at eu
      obtain ⟨rfl, rfl⟩ := eu
      obtain ⟨r0, r1, r2, r3, r4, r5, r6, r7, r8, r9, r10, r11, r12⟩ := range_cells hR
      have FU := full29 (wr.alloc (.cells c.cells.toArray 30)) c.va c.V.length c.vc
      have x5 : (wr.alloc (.cells c.cells.toArray 30)).cell? ⟨wr.heap.size, 5, none⟩ = some (.slice c.va c.V.length c.vc) := cellAt (heap_new wr _) 5 rfl
      have HC := hide hc
      clear hR ok hc
      go_wp2_with fail
      refine FU.mono ?_; rintro e w1 ⟨rfl, hk1⟩
      have k1 : Kp Nu wr w1 := (Kp.alloc wr _ Nu).andNu hk1
      have ho1 : w1.ownsRow w.heap.size 64 2 (.slice ad (i + 1) cp) (i + 1) (flatq (cqs (L.take i))) := own_keep hI.out.1 (fun g hg => k1.block g (own_lt hI.out.1 hg) (fun h => h))
      have H1 := hide (And.intro ho1 k1)
      have hsz : w.heap.size ≤ w1.heap.size := Nat.le_trans hI.out.2.size k1.size
      clear FU hk1 k1 ho1 r0 r1 r2 r3 r4 r5 r6 r7 r8 r9 r10 r11 r12 x5
      go_wp2_with (at_builtin; refine unhid ?_)
      refine wpList_append_lies _ rfl (.tmp 14) (.tmp 19) 122 rfl w.heap.size 64 i0 _ 2 32 Try.underlying122 hiT hz0 hz1 hz2 rfl (by decide) (.slice ad (i + 1) cp) (i + 1) (flatq (cqs (L.take i))) rfl (H1.out.1.alloc _) ⟨w1.heap.size, 0, none⟩ 1 1 (cq c).cells rfl rfl (World.news_of_block (heap_new w1 _)) (by simp [Cv.cells, cq, Value.oneCell']) (by decide) (by unfold maxLen; omega) (by omega) (by rw [World.size_alloc]; omega) _ rfl ?_
      intro g2 cap2 w2 hown hgrow hatt hlt2
      have HN : Hid (w2.ownsRow w.heap.size 64 2 (.slice (some ⟨g2, 0, none⟩) (i + 1 + 1) cap2) (i + 1 + 1) (flatq (cqs (L.take (i + 1)))) ∧ Kp Nu w w2) := by
        refine hide ⟨?_, ?_⟩
        · have e : cqs (L.take (i + 1)) = cqs (L.take i) ++ [cq c] := by
            rw [List.take_add_one, HC.out]
            simp [cqs]
          rw [e, flatq_snoc]
          exact hown
        · refine ((hI.out.2.andNu H1.out.2).andAlloc _).trans (Kp.of_grown hgrow) (fun g hg e => ?_)
          have := own_ge H1.out.1 e.symm
          omega
      clear hown hgrow hatt hlt2
      go_wp2
      exact ⟨⟨i + 1, _, _, by go_num, rfl, by omega, HN⟩, by simp [intOf]; omega⟩
    · have hge : ¬ (i : Int) < (N : Int) := by omega
      obtain rfl : i = N := by omega
      go_wp2
      go_ret
      refine ⟨_, rfl, ?_, hI.out.2⟩
      have h := hI.out.1
      rw [List.take_of_length_le (by have := HL.out.2; omega)] at h
      have e : i + 1 = (cqs L).length := by rw [cqs_len, HL.out.2]
      rw [e] at h ⊢
      exact h
end Go.Proofs.Ytcbonbeogdgogaa.Li
