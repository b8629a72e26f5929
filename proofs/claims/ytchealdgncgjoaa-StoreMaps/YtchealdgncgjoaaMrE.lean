import Derived.Test.YtchealdgncgjoaaMrD
namespace Go.Proofs.Ytchealdgncgjoaa.StM
open Go.RowKit Go.Proofs.Ytchealdgncgjoaa.St Go.Shelf Go.Sort Go.Proofs.Ytchealdgncgjoaa.It Go.Proofs.Ytchealdgncgjoaa.StI
set_option linter.unusedVariables false
set_option linter.unusedSimpArgs false
theorem kv_take {xs : List (Int × Int)} {j : Nat} {p : Int × Int} (h : xs[j]? = some p) : kv (xs.take (j + 1)) = kv (xs.take j) ++ [.int .i64 p.1] := by
  rw [take_snoc h, kv_snoc]
theorem vv_take {xs : List (Int × Int)} {j : Nat} {p : Int × Int} (h : xs[j]? = some p) : vvs (xs.take (j + 1)) = vvs (xs.take j) ++ [.int .i64 p.2] := by
  rw [take_snoc h, vv_snoc]
theorem kvl {xs : List (Int × Int)} {j : Nat} (h : j ≤ xs.length) : (kv (xs.take j)).length = j ∧ (vvs (xs.take j)).length = j := by
  simp [kv, vvs]; omega
theorem news1 (W : World) (u : Value) : ∀ j v, [u][j]? = some v → ((W.alloc (.cells #[u] 3)).drew).cell? ((⟨W.heap.size, 0, none⟩ : Addr).add j) = some v := cell_one_new W u 3
theorem bnd {j N : Nat} (h : j < N) (hl : N ≤ 17592186044000) : j + 1 ≤ maxLen ∧ (j + 1) * 8 ≤ 140737488355328 := ⟨by unfold maxLen; omega, by omega⟩
set_option maxRecDepth 100000 in
set_option maxHeartbeats 4000000 in
theorem clone69 {B : Nat} {w : World} {rb : Nat} {wh : Int} {vk vv : Value} {xs : List (Int × Int)} (h : Rm B w rb wh vk vv xs) (hl : xs.length ≤ 17592186044000) :
    Calls Try.prog 69 #[.pointer (some ⟨rb, 0, none⟩)] w fun e w' => e = .returned (.pointer (some ⟨w.heap.size, 0, none⟩)) ∧ (∃ vk' vv', Rm w.heap.size w' w.heap.size wh vk' vv' xs) ∧ Kp Nu w w' := by
  have mixed : Try.prog.follows .mixedOrders = true := by kernel_rfl
  obtain ⟨i3, hi3, hy0, hy1, hy2⟩ := info_parts info3s
  have HH := hide h
  have c0 := (cell3 h.blk).1
  obtain ⟨N, hN⟩ : ∃ N, xs.length = N := ⟨_, rfl⟩
  have HN := hide (And.intro hN hl)
  have k0 := Kp.alloc w (.cells #[.int .i64 wh, .slice none 0 0, .slice none 0 0] 52) Nu
  have HC0 : Hid (Cx w (w.alloc (.cells #[.int .i64 wh, .slice none 0 0, .slice none 0 0] 52)) w.heap.size wh (.slice none 0 0) [] (.slice none 0 0) []) := hide ⟨k0, heap_alloc_new w _, Nat.le_refl _, Tw.nil _ _⟩
  clear h hN hl k0
  go_enter Try.func69, Try.ntmps69
  go_wp2_with fail
  obtain ⟨rc, erc⟩ : ∃ rc, w.heap.size = rc := ⟨_, rfl⟩
  have HRC : Hid (w.heap.size = rc) := hide erc
  rw [show Cx w (w.alloc (.cells #[.int .i64 wh, .slice none 0 0, .slice none 0 0] 52)) w.heap.size = Cx w (w.alloc (.cells #[.int .i64 wh, .slice none 0 0, .slice none 0 0] 52)) rc by rw [← erc]] at HC0
  rw [erc]
  clear erc c0
  go_loopw [4] (fun s4 wr => ∃ (j : Nat) (vk' vv' : Value), s4 = .int .i64 (j : Int) ∧ j ≤ N ∧ Hid (Cx w wr rc wh vk' (kv (xs.take j)) vv' (vvs (xs.take j)))) (fun s4 _ => N - (intOf s4).toNat)
  case atStart => exact ⟨0, .slice none 0 0, .slice none 0 0, rfl, Nat.zero_le _, HC0⟩
  case round =>
    clear HC0
    obtain ⟨j, vk', vv', rfl, hj, hC⟩ := hrel
    have R0 := HH.out.nu hC.out.kp
    obtain ⟨adk, capk, ek⟩ := own_slice R0.ok
    obtain ⟨_, f1, f2⟩ := cell3 R0.blk
    rw [ek, HN.out.1] at f1
    by_cases hlt : j < N
    · obtain ⟨p, hp⟩ : ∃ p, xs[j]? = some p := ⟨_, List.getElem?_eq_getElem (by rw [HN.out.1]; exact hlt)⟩
      obtain ⟨r, capr, e1, hc⟩ := rowI_at (i := j) (u := .int .i64 p.1) R0.ok (by simp [kv]) (by simp [kv, hp])
      obtain ⟨r2, capr2, e2, hc2⟩ := rowI_at (i := j) (u := .int .i64 p.2) R0.ov (by simp [vvs]) (by simp [vvs, hp])
      rw [ek] at e1
      cases e1
      rw [e2, HN.out.1] at f2
      obtain ⟨hl1, hl2⟩ := kvl (xs := xs) (j := j) (by rw [HN.out.1]; omega)
      have C := hC.out
      have tw := C.tw
      obtain ⟨ad, cap, rfl⟩ := own_slice tw.ok
      obtain ⟨ad2, cap2, rfl⟩ := own_slice tw.ov
      have C' := C
      rw [hl1, hl2] at C'
      obtain ⟨_, b1, b2⟩ := cell3 C'.bc
      have oA : ((wr.alloc (.cells #[.int .i64 p.1] 3)).drew).ownsRow w.heap.size 3 1 (.slice ad j cap) j (kv (xs.take j)) := by
        have := (C'.nu (Kp.alloc wr (.cells #[.int .i64 p.1] 3) Nu).drew).tw.ok
        rwa [hl1] at this
      have nA := news1 wr (.int .i64 p.1)
      have sA : ((wr.alloc (.cells #[.int .i64 p.1] 3)).drew).heap.size = wr.heap.size + 1 := World.size_alloc _ _
      have HA := hide (And.intro oA (And.intro nA (And.intro sA C.kp.size)))
      obtain ⟨hb1, hb2⟩ := bnd hlt (by have := HN.out; omega)
      have HB := hide (And.intro hb1 hb2)
      have d1 : wr.drew.cell? ⟨rc, 1, none⟩ = some (.slice ad j cap) := b1
      have d2 : wr.drew.cell? ⟨rb, 1, none⟩ = some (.slice (some ⟨r, 0, none⟩) N capk) := f1
      have d3 : wr.drew.cell? ⟨r, j, none⟩ = some (.int .i64 p.1) := hc
      have d4 : ((wr.alloc (.cells #[.int .i64 p.1] 3)).drew).cell? ⟨rc, 1, none⟩ = some (.slice ad j cap) := (cell3 (C'.nu (Kp.alloc wr (.cells #[.int .i64 p.1] 3) Nu).drew).bc).2.1
      have hltI : (j : Int) < (N : Int) := by omega
      have hj0 : (0 : Int) ≤ (j : Int) := by omega
      have w1 := wq (j : Int) hj0 (by have := HN.out; omega)
      have HCX := hide (And.intro C' (And.intro hl1 (And.intro hl2 (And.intro hp hlt))))
      clear hj hC R0 e2 hc hc2 f2 hl1 hl2 C C' tw b1 b2 oA nA sA hb1 hb2 hp hlt ek
      go_wp2_with fail
      go_region_law (first | (refine step_append_lies _ rfl (.tmp 24) (.tmp 32) 47 rfl w.heap.size 3 i3 (.int .i64 0) 1 8 Try.underlying47 hi3 hy0 hy1 hy2 rfl (by decide) (.slice ad j cap) j (kv (xs.take j)) rfl HA.out.1 ⟨wr.heap.size, 0, none⟩ 1 1 [.int .i64 p.1] rfl rfl HA.out.2.1 (by simp [Value.oneCell']) (by decide) HB.out.1 HB.out.2 (by have h1 := HA.out.2.2.1; have h2 := HA.out.2.2.2; omega) (wr.heap.size + 1) HA.out.2.2.1 ?_; intro g gcap w4 ho hg hgat hglt; have hW := hide (And.intro ho (And.intro hg hgat)); have hb4 : w4.heap[rc]? = some (.cells #[.int .i64 wh, .slice ad j cap, .slice ad2 j cap2] 52 (0, 0)) := HCX.out.1.box hg (.inl rfl); have z1 := (cell3 hb4).2.1; have z2 := free3 hb4 1; clear ho hg hgat hglt hb4))
      all_goals (
        have C1 := HCX.out.1.kn HCX.out.2.1 hW.out.2.1 hW.out.1 hW.out.2.2
        generalize w4.setCell ⟨rc, 1, none⟩ (.slice (some ⟨g, 0, none⟩) (j + 1) gcap) = W5 at *
        have R1 := HH.out.nu C1.kp
        obtain ⟨_, _, g2⟩ := cell3 R1.blk
        obtain ⟨r3, capr3, e3, hc3⟩ := rowI_at (i := j) (u := .int .i64 p.2) R1.ov (by simp [vvs]) (by simp [vvs, HCX.out.2.2.2.1])
        rw [e3, HN.out.1] at g2
        obtain ⟨_, _, b2⟩ := cell3 C1.bc
        have oB : ((W5.alloc (.cells #[.int .i64 p.2] 3)).drew).ownsRow w.heap.size 3 1 (.slice ad2 j cap2) j (vvs (xs.take j)) := by
          have := (C1.nu (Kp.alloc W5 (.cells #[.int .i64 p.2] 3) Nu).drew).tw.ov
          rwa [HCX.out.2.2.1] at this
        have nB := news1 W5 (.int .i64 p.2)
        have sB : ((W5.alloc (.cells #[.int .i64 p.2] 3)).drew).heap.size = W5.heap.size + 1 := World.size_alloc _ _
        have HD := hide (And.intro oB (And.intro nB (And.intro sB C1.kp.size)))
        have d1' : W5.drew.cell? ⟨rc, 2, none⟩ = some (.slice ad2 j cap2) := b2
        have d2' : W5.drew.cell? ⟨rb, 2, none⟩ = some (.slice (some ⟨r3, 0, none⟩) N capr3) := g2
        have d3' : W5.drew.cell? ⟨r3, j, none⟩ = some (.int .i64 p.2) := hc3
        have d4' : ((W5.alloc (.cells #[.int .i64 p.2] 3)).drew).cell? ⟨rc, 2, none⟩ = some (.slice ad2 j cap2) := (cell3 (C1.nu (Kp.alloc W5 (.cells #[.int .i64 p.2] 3) Nu).drew).bc).2.2
        have HC1 := hide C1
        clear R1 C1 oB nB sB b2 g2 hc3 e3 hW z1 z2 d1 d2 d3 d4 f1
        go_wp2_with fail
        go_region_law (first | (refine step_append_lies _ rfl (.tmp 40) (.tmp 48) 47 rfl w.heap.size 3 i3 (.int .i64 0) 1 8 Try.underlying47 hi3 hy0 hy1 hy2 rfl (by decide) (.slice ad2 j cap2) j (vvs (xs.take j)) rfl HD.out.1 ⟨W5.heap.size, 0, none⟩ 1 1 [.int .i64 p.2] rfl rfl HD.out.2.1 (by simp [Value.oneCell']) (by decide) HB.out.1 HB.out.2 (by have h1 := HD.out.2.2.1; have h2 := HD.out.2.2.2; omega) (W5.heap.size + 1) HD.out.2.2.1 ?_; intro g' gcap' w6 ho hg hgat hglt; have hW' := hide (And.intro ho (And.intro hg hgat)); have hb6 := HC1.out.box hg (.inr rfl); have z1' := (cell3 hb6).2.2; have z2' := free3 hb6 2; clear ho hg hgat hglt hb6))
        all_goals (
          have C2 := HC1.out.vn HCX.out.2.2.1 hW'.out.2.1 hW'.out.1 hW'.out.2.2
          rw [← kv_take HCX.out.2.2.2.1, ← vv_take HCX.out.2.2.2.1] at C2
          have HF := hide C2
          clear C2 hW' z1' z2' d1' d2' d3' d4'
          go_wp2_with fail
          rw [w1]
          exact ⟨⟨j + 1, _, _, by go_num, sq HCX.out.2.2.2.2, HF⟩, mq HCX.out.2.2.2.2⟩))
    · obtain rfl : j = N := by omega
      have hge : ¬ (j : Int) < (j : Int) := by omega
      have C := hC.out
      have et : xs.take j = xs := by rw [← HN.out.1]; exact List.take_length
      rw [et] at C
      have HF : Hid ((∃ vk' vv', Rm w.heap.size wr w.heap.size wh vk' vv' xs) ∧ Kp Nu w wr) := hide ⟨⟨vk', vv', by rw [HRC.out]; exact C.bc, by simpa [kv] using C.tw.ok, by simpa [vvs] using C.tw.ov, C.tw.ap⟩, C.kp⟩
      clear C hC R0 hj hlt et f2
      go_wp2_with fail
      go_ret
      exact ⟨by rw [HRC.out]; rfl, HF.out.1, HF.out.2⟩
end Go.Proofs.Ytchealdgncgjoaa.StM
