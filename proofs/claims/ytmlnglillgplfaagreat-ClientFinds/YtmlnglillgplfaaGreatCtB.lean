import Derived.Test.YtmlnglillgplfaaGreatCtA
namespace Go.Proofs.YtmlnglillgplfaaGreat.Cl
open Go.RowKit Go.Maps
set_option linter.unusedVariables false
set_option maxRecDepth 100000 in
set_option maxHeartbeats 1000000 in
/-- bytes.Clone -/
theorem clone_gen (w : World) (u : Sl) (ys : List Int) (h : Rd w u.val ys) (hy : ys.length ≤ 3072) : Calls Tryz.prog 60 #[u.val] w fun e w' => ∃ d : Sl, e = .returned d.val ∧ Bt w' d ys ∧ Kp Nu w w' := by
  obtain ⟨i0, hi, hz0, hz1, hz2⟩ := info_parts info5
  rcases h with ⟨hu, rfl⟩ | ⟨a, cap, hu, hc⟩
  · rw [hu]
    have nn := isNil24
    go_enter Tryz.func60, Tryz.ntmps60
    go_wp2
    go_ret
    exact ⟨Sl.nil, rfl, ⟨rfl, .inl ⟨rfl, rfl⟩⟩, Kp.refl _ _⟩
  rw [hu]
  have nn := notNil24
  have HC : Hid (∀ j x, (cs ys)[j]? = some x → (w.alloc (.cells #[] 5)).cell? (a.add j) = some x) := fun j x hj => by
    have := hc j x hj
    exact (World.cell?_of_block (Below.heap_alloc w _ _ (World.block_lt_of_cell? w _ this))).trans this
  have HY := hide hy
  clear hc hy hu
  go_enter Tryz.func60, Tryz.ntmps60
  go_wp2_with (at_builtin; refine wpList_append_own _ rfl _ _ 24 rfl w.heap.size 5 i0 (.int .u8 0) 1 1 Tryz.underlying24 hi hz0 hz1 hz2 rfl (by decide) _ _ _ rfl (World.ownsRow_made w #[] 0 (Nat.le_refl _) (Nat.zero_le _) rfl) a ys.length cap (cs ys) rfl ?qc1 ?qc2 ?qc3 ?qc4 ?qc5 ?qc6 ?_)
  case qc1 => simp [cs_length]
  case qc2 => exact HC.out
  case qc3 => exact cs_one ys
  case qc4 => have := HY.out; unfold maxLen; omega
  case qc5 => have := HY.out; omega
  case qc6 => simp
  intro v' w1 hown hgrow hnil
  have hk : Kp Nu w w1 := by
    refine (Kp.alloc w _ Nu).trans (Kp.of_grown hgrow) (fun i hi e => ?_)
    simp [Value.ownBlock] at e
    omega
  obtain ⟨d, hd, hbt⟩ := Bt.of (ys := ys) (by simpa using hown)
  have HB := hide hbt
  have HK := hide hk
  rw [hd]
  clear hown hgrow hnil hk hbt hd
  unfold Sl.val
  go_wp2
  go_ret
  exact ⟨d, rfl, HB.out, HK.out⟩
set_option maxRecDepth 100000 in
set_option maxHeartbeats 2000000 in
/-- a request copied -/
theorem copy_any (w : World) (k key hi lim : Int) (has : Bool) (v o : Sl) (V O : List Int) (hv : Rd w v.val V) (ho : Rd w o.val O) (lv : V.length ≤ 3072) (lo : O.length ≤ 3072) :
    Calls Tryz.prog 54 #[.agg #[.int .u8 k, .int .u64 key, .int .u64 hi, v.val, o.val, .bool has, .int .u8 lim]] w fun e w' => ∃ v' o' : Sl, e = .returned (.agg #[.int .u8 k, .int .u64 key, .int .u64 hi, v'.val, o'.val, .bool has, .int .u8 lim]) ∧ Bt w' v' V ∧ Bt w' o' O ∧ Kp Nu w w' := by
  have C1 := fun W (kp : Kp Nu w W) => clone_gen W v V (hv.nu kp) lv
  have C2 := fun W (kp : Kp Nu w W) => clone_gen W o O (ho.nu kp) lo
  clear hv ho lv lo
  unfold Sl.val at *
  go_enter Tryz.func54, Tryz.ntmps54
  go_wp2_with fail
  refine (C1 _ ((Kp.alloc w _ Nu).andAlloc _)).mono ?_; rintro e w1 ⟨v', rfl, hb1, hk1⟩
  have hA := (hk1.block _ (by simp; omega) (fun h => h)).trans (new12 w _ _)
  have hZ := (hk1.block _ (by simp) (fun h => h)).trans (new2 w _ _)
  have x3 := cellAt hA 3 (by rfl)
  have f3 := free3 hA 3
  have x4 := cellAt hA 4 (by rfl)
  have hA1 := set3 hA 3 v'.val
  have hZ1 := (Below.heap_setCell w1 ⟨w.heap.size, 3, none⟩ v'.val (w.heap.size + 1) (by simp)).trans hZ
  have K1 : Kp Nu w (w1.setCell ⟨w.heap.size, 3, none⟩ v'.val) := ((((Kp.alloc w _ Nu).andAlloc _).andNu hk1)).andSet _ _ (.inl (Nat.le_refl _))
  have hb1' : Bt (w1.setCell ⟨w.heap.size, 3, none⟩ v'.val) v' V := hb1.kp (Kp.setCell w1 ⟨w.heap.size, 3, none⟩ v'.val) (fun i hi c hc => by have hi : i = w.heap.size := hi; subst hi; rw [hA] at hc; cases hc)
  obtain ⟨W1, hW1⟩ : ∃ W1, w1.setCell ⟨w.heap.size, 3, none⟩ v'.val = W1 := ⟨_, rfl⟩
  rw [hW1] at hA1 hZ1 K1 hb1'
  have C2' := C2 W1 K1
  have HA := hide hA1
  have HZ := hide hZ1
  have HK := hide K1
  have HB := hide hb1'
  have y4 : W1.cell? ⟨w.heap.size, 4, none⟩ = some (.slice o.a o.n o.c) := cellAt hA1 4 (by rfl)
  clear C1 C2 hA hZ hb1 hk1 hA1 hZ1 K1 hb1'
  unfold Sl.val at hW1
  go_wp2_with fail
  refine C2'.mono ?_; rintro e w2 ⟨o', rfl, hb2, hk2⟩
  have hA2 := (hk2.block _ (blk_lt HA.out) (fun h => h)).trans HA.out
  have hZ2 := (hk2.block _ (blk_lt HZ.out) (fun h => h)).trans HZ.out
  have z4 := cellAt hA2 4 (by rfl)
  have g4 := free3 hA2 4
  have hA3 := set3 hA2 4 o'.val
  have hZ3 := (Below.heap_setCell w2 ⟨w.heap.size, 4, none⟩ o'.val (w.heap.size + 1) (by simp)).trans hZ2
  have K3 : Kp Nu w (w2.setCell ⟨w.heap.size, 4, none⟩ o'.val) := (HK.out.andNu hk2).andSet _ _ (.inl (Nat.le_refl _))
  have nb : ∀ i, i = w.heap.size → ∀ c, w2.heap[i]? ≠ some (.cells c 5 (0, 0)) := fun i hi c hc => by subst hi; rw [hA2] at hc; cases hc
  have hbv : Bt (w2.setCell ⟨w.heap.size, 4, none⟩ o'.val) v' V := (HB.out.nu hk2).kp (Kp.setCell w2 ⟨w.heap.size, 4, none⟩ o'.val) nb
  have hbo : Bt (w2.setCell ⟨w.heap.size, 4, none⟩ o'.val) o' O := hb2.kp (Kp.setCell w2 ⟨w.heap.size, 4, none⟩ o'.val) nb
  obtain ⟨W2, hW2⟩ : ∃ W2, w2.setCell ⟨w.heap.size, 4, none⟩ o'.val = W2 := ⟨_, rfl⟩
  rw [hW2] at hA3 hZ3 K3 hbv hbo
  have HA3 : Hid (W2.heap[w.heap.size]? = some (.cells #[.int .u8 k, .int .u64 key, .int .u64 hi, v'.val, o'.val, .bool has, .int .u8 lim] 26 (0, 0))) := hA3
  have HZ3 := hide hZ3
  have HK3 := hide K3
  have HBV := hide hbv
  have HBO := hide hbo
  clear C2' hA2 hZ2 hb2 hk2 hA3 hZ3 K3 hbv hbo nb HA HZ HK HB y4
  unfold Sl.val at hW2 HA3
  go_wp2_with (first | (guard_target =~ wpList _ _ _ ({ dst := _, op := Op.load 26 (Operand.tmp 1), type := _, pos := _, after := _, guard := _ } :: _) _ _; refine wpList_load_all 26 7 (.tmp 1) rfl rfl info26 _ Tryz.underlying26 rfl _ rfl HA3.out rfl ?_) | (guard_target =~ wpList _ _ _ ({ dst := none, op := Op.store 26 (Operand.tmp 2) (Operand.tmp 11), type := _, pos := _, after := _, guard := _ } :: _) _ _; refine wpList_store_all 26 7 (.tmp 2) (.tmp 11) rfl rfl info26 _ _ rfl rfl HZ3.out rfl rfl (by simp [Value.oneCell']) ?_; intro W3 hW3 hK3 _))
  refine bodyPost_ret (results_cell_row rfl _ _ (w.heap.size + 1) 26 _ _ _ rfl hW3 Tryz.underlying26 rfl info26) rfl ?_
  have nb : ∀ i, i = w.heap.size + 1 → ∀ c, W2.heap[i]? ≠ some (.cells c 5 (0, 0)) := fun i hi c hc => by subst hi; rw [HZ3.out] at hc; cases hc
  exact ⟨v', o', rfl, HBV.out.kp hK3 nb, HBO.out.kp hK3 nb, HK3.out.trans hK3 (fun i hi e => by have e : i = w.heap.size + 1 := e; omega)⟩
end Go.Proofs.YtmlnglillgplfaaGreat.Cl
