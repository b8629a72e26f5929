import Derived.Test.YtbifmcadllilhaaGreatOwH
import Derived.BigQuiet
namespace Go.Proofs.YtbifmcadllilhaaGreat.Rg
open Go.RowKit Go.Shelf Go.Sort
open Go.Proofs.YtbifmcadllilhaaGreat.It
set_option linter.unusedVariables false
set_option maxRecDepth 100000 in
set_option maxHeartbeats 8000000 in
theorem apart23 (w : World) (B b : Nat) (mv sv iv : Value) (ml sl il : List Value) (mn sn kn : List Nat) (X Y Z : Nat → List Value) (hB : Bk w B b mv sv iv ml sl il) (hM : En w B 41 5 ml mn X) (hS : En w B 38 3 sl sn Y) (hI : En w B 3 1 il kn Z) (m1 : 0 < ml.length) (m2 : ml.length ≤ 100) (hsm : sl.length = ml.length) (i1 : 0 < il.length) (i2 : il.length ≤ 100) (hmn : ∀ n ∈ mn, n ≤ 20000) (hsn : ∀ n ∈ sn, n ≤ 20000) (hkn : ∀ n ∈ kn, n ≤ 20000) (hBw : B ≤ w.heap.size) :
    Calls Tryz.prog 23 #[.pointer (some ⟨b, 0, none⟩)] w fun e w' => e = .returned (.bool true) ∧ Kp (fun g => Eb ml g ∨ Eb sl g ∨ Eb il g) w w' := by
  have mixed : Tryz.prog.follows .mixedOrders = true := by kernel_rfl
  have MK := marks41 w B b mv sv iv ml sl il mn sn kn X Y Z hB hM hS hI m1 m2 (by omega) (by omega) i1 i2 hmn hsn hkn
  obtain ⟨mg, mc, emv⟩ := own_blk hB.m m1
  obtain ⟨sg, sc, esv⟩ := own_blk hB.s (by omega)
  obtain ⟨ig, ic, eiv⟩ := own_blk hB.i i1
  subst emv
  subst esv
  subst eiv
  obtain ⟨MN, eMN⟩ : ∃ n, ml.length = n := ⟨_, rfl⟩
  obtain ⟨IN, eIN⟩ : ∃ n, il.length = n := ⟨_, rfl⟩
  rw [hsm] at MK
  have HA := hide (And.intro hmn (And.intro hsn (And.intro hkn hBw)))
  have HN := hide (And.intro eMN (And.intro hsm eIN))
  rw [eMN] at m1 m2 MK
  rw [eIN] at i1 i2 MK
  have hMI : (MN : Int) ≤ 100 := by omega
  have hII : (IN : Int) ≤ 100 := by omega
  clear hB hM hS hI hmn hsn hkn eMN eIN hsm hBw
  go_enter Tryz.func23, Tryz.ntmps23
  go_wp2_with fail
  refine MK.mono ?_; rintro e w1 ⟨rfl, hB1, hM1, hS1, hI1, hk1⟩
  have hBw1 : B ≤ w1.heap.size := by have := HA.out.2.2.2; have := hk1.size; omega
  have H1 := hide (And.intro hB1 (And.intro hM1 (And.intro hS1 (And.intro hI1 (And.intro hk1 hBw1)))))
  obtain ⟨B1, eB1⟩ : ∃ B1, w1.heap.size = B1 := ⟨_, rfl⟩
  have HB1 := hide eB1
  have GM0 : Hid (Gw w1 B B1 41 5 ml mn fM gM 20 [] 0) := hide (by rw [← eB1]; exact Gw.start hM1)
  have GS0 : Hid (Gw w1 B B1 38 3 sl sn fS gS 20 [] 0) := hide (by rw [← eB1]; exact Gw.start hS1)
  have GI0 : Hid (Gw w1 B B1 3 1 il kn fI gI 40 [] 0) := hide (by rw [← eB1]; exact Gw.start hI1)
  have apM : Hid (∀ g, Bc b (.slice (some ⟨mg, 0, none⟩) MN mc) (.slice (some ⟨sg, 0, none⟩) MN sc) (.slice (some ⟨ig, 0, none⟩) IN ic) g → ¬ (Eb ml g ∨ Eb sl g)) := hide (fun g hg e => e.elim (hB1.apart hM1 (by decide) (by decide) (by decide) (by decide) g hg) (hB1.apart hS1 (by decide) (by decide) (by decide) (by decide) g hg))
  clear MK hB1 hM1 hS1 hI1 hk1 eB1
  go_wp2
  go_loopw [3, 4, 6] (fun mxv sxv iv wr => ∃ (i : Nat) (ma : Option Addr) (mcc : Nat) (sa : Option Addr) (scc : Nat), mxv = .slice ma i mcc ∧ sxv = .slice sa i scc ∧ iv = .int .i64 (i : Int) ∧ i ≤ MN ∧ Hid (∃ lm lg, wr.ownsRow B1 27 1 (.slice ma i mcc) i lm ∧ wr.ownsRow B1 22 1 (.slice sa i scc) i lg ∧ Gw wr B B1 41 5 ml mn fM gM 20 lm i ∧ Gw wr B B1 38 3 sl sn fS gS 20 lg i ∧ Kp (fun g => Eb ml g ∨ Eb sl g) w1 wr)) (fun _ _ iv _ => MN - (intOf iv).toNat)
  case atStart => exact ⟨0, none, 0, none, 0, rfl, rfl, rfl, Nat.zero_le _, hide ⟨[], [], World.ownsRow_nil _ _ _ _, World.ownsRow_nil _ _ _ _, GM0.out, GS0.out, Kp.refl _ _⟩⟩
  case round =>
    obtain ⟨i, ma, mcc, sa, scc, rfl, rfl, rfl, hi, hE⟩ := hrel
    have hi0 : (0 : Int) ≤ (i : Int) := by omega
    have hBr : Bk wr B b (.slice (some ⟨mg, 0, none⟩) MN mc) (.slice (some ⟨sg, 0, none⟩) MN sc) (.slice (some ⟨ig, 0, none⟩) IN ic) ml sl il := by
      obtain ⟨lm, lg, _, _, _, _, hk⟩ := hE.out
      exact H1.out.1.keep hk apM.out
    obtain ⟨c0, c1, c2⟩ := cell3 hBr.blk
    by_cases hlt : i < MN
    · have hltI : (i : Int) < (MN : Int) := by omega
      have eti : (i : Int).toNat = i := by omega
      have HbI : Hid (i + 1 ≤ maxLen ∧ (i + 1) * 24 ≤ 140737488355328) := hide ⟨by unfold maxLen; omega, by omega⟩
      obtain ⟨lm, lg, hmx, hsx, hGM, hGS, hkE⟩ := hE.out
      obtain ⟨v, hv⟩ : ∃ v, ml[i]? = some v := ⟨_, List.getElem?_eq_getElem (by have := HN.out; omega)⟩
      obtain ⟨n, hn⟩ : ∃ n, mn[i]? = some n := ⟨_, List.getElem?_eq_getElem (by have := HN.out; have := hGM.lev; omega)⟩
      obtain ⟨s, hs⟩ : ∃ s, sl[i]? = some s := ⟨_, List.getElem?_eq_getElem (by have := HN.out; omega)⟩
      obtain ⟨m, hm⟩ : ∃ m, sn[i]? = some m := ⟨_, List.getElem?_eq_getElem (by have := HN.out; have := hGS.lev; omega)⟩
      have hrv := hGM.own i v n (Nat.le_refl _) hv hn
      have hrs := hGS.own i s m (Nat.le_refl _) hs hm
      have hn2 := HA.out.1 n (List.mem_of_getElem? hn)
      have hm2 := HA.out.2.1 m (List.mem_of_getElem? hm)
      have hcM : wr.cell? ⟨mg, i, none⟩ = some v := own_cell (B := B) (by have h := hBr.m; rw [HN.out.1] at h; exact h) hv
      have hcS : wr.cell? ⟨sg, i, none⟩ = some s := own_cell (B := B) (by have h := hBr.s; rw [HN.out.2.1, HN.out.1] at h; exact h) hs
      obtain ⟨va, vc, ev⟩ := own_slice hrv
      obtain ⟨ua, uc, es⟩ := own_slice hrs
      have ew1 : IntKind.u64.wrap ((i : Int) + 1000) = (i : Int) + 1000 := wu64s (by omega) (by omega)
      have ew2 : IntKind.i64.wrap ((i : Int) + 1000) = (i : Int) + 1000 := wi64s (by omega) (by omega)
      have ew3 : wrap64 ((i : Int) + 1000) = (i : Int) + 1000 := w64s (by omega) (by omega)
      subst ev
      subst es
      have HV := hide (And.intro hv (And.intro hn (And.intro hs (And.intro hm (And.intro hrv (And.intro hrs hBr))))))
      have hnI : (n : Int) ≤ 20000 := by omega
      have hmI : (m : Int) ≤ 20000 := by omega
      have HE0 := hide (And.intro hmx (And.intro hsx (And.intro hGM (And.intro hGS hkE))))
      clear hmx hsx hGM hGS hkE hv hn hs hm hrv hrs hBr
      go_wp2_with fail
      go_quiet (fail)
      have kW : Kp Nu wr (wr.drewN nq) := kp_dn wr nq
      obtain ⟨W0, hW⟩ : ∃ W, wr.drewN nq = W := ⟨_, rfl⟩
      rw [hW] at kW ⊢
      have H0 := hide kW
      clear hW kW hcM hcS c0 c1 c2
      have HL0 : Hid (Gl W0 W0 B 41 5 (.slice va n vc) (.slice va n vc) n n (mkl (fM i) n) [] ∧ Gl W0 W0 B 38 3 (.slice ua m uc) (.slice ua m uc) m m (mkl (fS i) m) []) := by
        obtain ⟨_, _, _, _, hrv, hrs, _⟩ := HV.out
        exact hide ⟨Gl.start (own_keep hrv (fun g e => H0.out.block g (own_lt hrv e) (fun x => x))), Gl.start (own_keep hrs (fun g e => H0.out.block g (own_lt hrs e) (fun x => x)))⟩
      have HO : Hid (W0.ownsRow B1 27 1 (.slice ma i mcc) i lm ∧ W0.ownsRow B1 22 1 (.slice sa i scc) i lg ∧ Gw W0 B B1 41 5 ml mn fM gM 20 lm i ∧ Gw W0 B B1 38 3 sl sn fS gS 20 lg i ∧ Kp (fun g => Eb ml g ∨ Eb sl g) w1 W0 ∧ B ≤ W0.heap.size) := by
        obtain ⟨hmx, hsx, hGM, hGS, hkE⟩ := HE0.out
        have k0 := H0.out
        exact hide ⟨own_keep hmx (fun g e => k0.block g (own_lt hmx e) (fun x => x)), own_keep hsx (fun g e => k0.block g (own_lt hsx e) (fun x => x)), hGM.keep k0 (fun _ _ _ x => x), hGS.keep k0 (fun _ _ _ x => x), hkE.andNu k0, by have := H1.out.2.2.2.2.2; have := hkE.size; have := k0.size; omega⟩
      clear HE0 hE H0
      go_wp2
      go_loopw [7, 8, 9] (fun lv xv kv wq => ∃ (k : Nat) (la : Option Addr) (lc : Nat) (xa : Option Addr) (xc : Nat), lv = .slice la (n + k) lc ∧ xv = .slice xa (m + k) xc ∧ kv = .int .i64 (k : Int) ∧ k ≤ 20 ∧ Hid (Gl W0 wq B 41 5 (.slice va n vc) (.slice la (n + k) lc) n (n + k) (mkl (fM i) n) (mkl (gM i) k) ∧ Gl W0 wq B 38 3 (.slice ua m uc) (.slice xa (m + k) xc) m (m + k) (mkl (fS i) m) (mkl (gS i) k) ∧ Kp (fun q => some q = (Value.slice va n vc).ownBlock ∨ some q = (Value.slice ua m uc).ownBlock) W0 wq)) (fun _ _ kv _ => 20 - (intOf kv).toNat)
      case atStart => exact ⟨0, va, vc, ua, uc, rfl, rfl, rfl, Nat.zero_le _, hide ⟨HL0.out.1, HL0.out.2, Kp.refl _ _⟩⟩
      case round =>
        obtain ⟨k, la, lc, xa, xc, rfl, rfl, rfl, hk, hQ⟩ := hrel
        have hk0 : (0 : Int) ≤ (k : Int) := by omega
        by_cases hlk : k < 20
        · have hlkI : (k : Int) < 20 := by omega
          have ewk : IntKind.u64.wrap (k : Int) = (k : Int) := wu64s (by omega) (by omega)
          obtain ⟨i0, hiT, hz0, hz1, hz2⟩ := info_parts info59
          obtain ⟨i2', hiT2, hz02, hz12, hz22⟩ := info_parts info82z
          have hsz : W0.heap.size ≤ wr.heap.size := hQ.out.2.2.size
          have hBs : B ≤ wr.heap.size := by have := HO.out.2.2.2.2.2; omega
          go_wp2_with (at_builtin; refine unhid ?_)
          refine wpList_append_row _ rfl _ _ 27 rfl B 41 i0 _ 5 32 Tryz.underlying27 hiT hz0 hz1 hz2 rfl (by decide) (.slice la (n + k) lc) (n + k) _ rfl (hQ.out.1.own.alloc _) ⟨wr.heap.size, 0, none⟩ 1 1 [.int .u8 0, .int .u8 0, .int .u64 ((i : Int) + 1000), .int .u64 (k : Int), .int .i64 0] (by first | rfl | (simp; done)) rfl (World.news_of_block (heap_alloc_new _ _)) (by simp [Value.oneCell']) (by unfold maxLen; omega) (by omega) (by rw [World.size_alloc]; omega) ?_
          intro l' w2 hown2 hgrow2 hat2 hrw2
          have kal := Kp.alloc wr (.cells #[.int .u8 0, .int .u8 0, .int .u64 ((i : Int) + 1000), .int .u64 (k : Int), .int .i64 0] 41) Nu
          obtain ⟨hG1, hK1⟩ := hQ.out.1.app (l' := l') (news := gM i k) kal hsz hown2 hgrow2 hat2 hrw2
          rw [← mkl_succ] at hG1
          have hG2 := hQ.out.2.1.keep (kp_row kal hgrow2) (fun q c hc e => by
            obtain ⟨c', hc'⟩ := own_obj hQ.out.1.own e.symm
            rw [hc] at hc'; cases hc')
          have hK2 := hK1 _ (fun q e => .inl e) hQ.out.2.2
          obtain ⟨la', lc', el⟩ := own_slice hown2
          have HQ2 := hide (And.intro hG1 (And.intro hG2 hK2))
          have hs2 : wr.heap.size ≤ w2.heap.size := by have := (kp_row kal hgrow2).size; omega
          subst el
          clear hown2 hgrow2 hat2 hrw2 hG1 hG2 hK1 hK2 kal
          go_wp2_with (at_builtin; refine unhid ?_)
          refine wpList_append_row _ rfl _ _ 22 rfl B 38 i2' _ 3 24 Tryz.underlying22 hiT2 hz02 hz12 hz22 rfl (by decide) (.slice xa (m + k) xc) (m + k) _ rfl (HQ2.out.2.1.own.alloc _) ⟨w2.heap.size, 0, none⟩ 1 1 [.int .u64 ((i : Int) + 1000), .int .u64 (k : Int), .int .u8 0] (by first | rfl | (simp; done)) rfl (World.news_of_block (heap_alloc_new _ _)) (by simp [Value.oneCell']) (by unfold maxLen; omega) (by omega) (by rw [World.size_alloc]; omega) ?_
          intro x' w3 hown3 hgrow3 hat3 hrw3
          have kal := Kp.alloc w2 (.cells #[.int .u64 ((i : Int) + 1000), .int .u64 (k : Int), .int .u8 0] 38) Nu
          obtain ⟨hG2, hK2⟩ := HQ2.out.2.1.app (l' := x') (news := gS i k) kal (by omega) hown3 hgrow3 hat3 hrw3
          rw [← mkl_succ] at hG2
          have hG1 := HQ2.out.1.keep (kp_row kal hgrow3) (fun q c hc e => by
            obtain ⟨c', hc'⟩ := own_obj HQ2.out.2.1.own e.symm
            rw [hc] at hc'; cases hc')
          have hK3 := hK2 _ (fun q e => .inr e) HQ2.out.2.2
          obtain ⟨xa', xc', ex⟩ := own_slice hown3
          have HQ3 := hide (And.intro hG1 (And.intro hG2 hK3))
          subst ex
          clear hown3 hgrow3 hat3 hrw3 hG1 hG2 hK2 hK3 kal hs2 hsz hBs
          go_wp2
          exact ⟨⟨k + 1, la', lc', xa', xc', rfl, rfl, by go_num, by omega, hide ⟨HQ3.out.1, HQ3.out.2.1, HQ3.out.2.2⟩⟩, by simp [intOf]; omega⟩
        · have hlkI : ¬ (k : Int) < 20 := by omega
          have hk20 := hide (Nat.le_antisymm hk (Nat.le_of_not_lt hlk))
          clear ew1 ew2 ew3
          obtain ⟨hmx, hsx, hGM, hGS, hkE, hxx⟩ := HO.out
          obtain ⟨hv, hn, hs, hm, hyy⟩ := HV.out
          clear hxx hyy
          have hT2 : ∀ (q : Nat) (c : Array Value) (t : TypeId), W0.heap[q]? = some (.cells c t (0, 0)) → (some q = (Value.slice va n vc).ownBlock → t = 41) ∧ (some q = (Value.slice ua m uc).ownBlock → t = 38) := fun q c t hc => by
            refine ⟨fun e => ?_, fun e => ?_⟩
            · obtain ⟨c', hc'⟩ := own_obj HL0.out.1.own e.symm
              rw [hc] at hc'; cases hc'; rfl
            · obtain ⟨c', hc'⟩ := own_obj HL0.out.2.own e.symm
              rw [hc] at hc'; cases hc'; rfl
          have hB1W : B1 ≤ W0.heap.size := by rw [← HB1.out]; exact hkE.size
          have hG1 := hGM.step hv hn hB1W (hQ.out.1.cast hk20.out) hQ.out.2.2 (fun q cc hc e => e.elim id (fun e2 => by have := (hT2 q cc _ hc).2 e2; cases this))
          have hG2 := hGS.step hs hm hB1W (hQ.out.2.1.cast hk20.out) hQ.out.2.2 (fun q cc hc e => e.elim (fun e2 => by have := (hT2 q cc _ hc).1 e2; cases this) id)
          have side : ∀ {t : Nat} {v : Value} {nn : Nat} {xs : List Value}, W0.ownsRow B1 t 1 v nn xs → t ≠ 41 → t ≠ 38 → wr.ownsRow B1 t 1 v nn xs := fun hr t1 t2 => by
            have hr0 := hr
            exact own_keep hr0 (fun g e => hQ.out.2.2.block g (own_lt hr0 e) (fun e2 => by
              obtain ⟨c, hc⟩ := own_obj hr0 e
              rcases e2 with e2 | e2
              · exact t1 ((hT2 g c _ hc).1 e2)
              · exact t2 ((hT2 g c _ hc).2 e2)))
          have hmx' := side hmx (by decide) (by decide)
          have hsx' := side hsx (by decide) (by decide)
          have kE : Kp (fun g => Eb ml g ∨ Eb sl g) w1 wr := hkE.trans hQ.out.2.2 (fun q _ e => e.elim (fun e => .inl ⟨_, List.mem_of_getElem? hv, e⟩) (fun e => .inr ⟨_, List.mem_of_getElem? hs, e⟩))
          have hsz : B1 ≤ wr.heap.size := Nat.le_trans hB1W hQ.out.2.2.size
          have HM2 := hide (And.intro hmx' (And.intro hsx' (And.intro hG1 (And.intro hG2 (And.intro kE hsz)))))
          obtain ⟨i7, hi7, hz70, hz71, hz72⟩ := info_parts info27l
          obtain ⟨i8, hi8, hz80, hz81, hz82⟩ := info_parts info22l
          clear hmx hsx hGM hGS hkE hv hn hs hm hT2 hB1W hG1 hG2 side hmx' hsx' kE hsz
          go_wp2_with (at_builtin; refine unhid ?_)
          refine wpList_append_row _ rfl _ _ 56 rfl B1 27 i7 _ 1 24 Tryz.underlying56 hi7 hz70 hz71 hz72 rfl (by decide) (.slice ma i mcc) i lm rfl (HM2.out.1.alloc _) ⟨wr.heap.size, 0, none⟩ 1 1 [.slice la (n + k) lc] (by first | rfl | (simp; done)) rfl (news_one _ _) (by simp [Value.oneCell']) HbI.out.1 HbI.out.2 (by rw [World.size_alloc]; exact Nat.le_succ_of_le HM2.out.2.2.2.2.2) ?_
          intro mx' w2 hown2 hgrow2 hat2 hrw2
          clear hk hlk hlkI hk0
          obtain ⟨ma', mcc', emx⟩ := own_slice hown2
          have HM3 : Hid (w2.ownsRow B1 27 1 mx' (i + 1) (lm ++ [.slice la (n + k) lc]) ∧ w2.ownsRow B1 22 1 (.slice sa i scc) i lg ∧ Gw w2 B B1 41 5 ml mn fM gM 20 (lm ++ [.slice la (n + k) lc]) (i + 1) ∧ Gw w2 B B1 38 3 sl sn fS gS 20 (lg ++ [.slice xa (m + k) xc]) (i + 1) ∧ Kp (fun g => Eb ml g ∨ Eb sl g) w1 w2 ∧ B1 ≤ w2.heap.size) := by
            obtain ⟨hmx, hsx, hG1, hG2, kE, hsz⟩ := HM2.out
            have k2 := kp_row (Kp.alloc wr (.cells #[.slice la (n + k) lc] 27) Nu) hgrow2
            have ty : ∀ (q : Nat) (c : Array Value) (t : TypeId), wr.heap[q]? = some (.cells c t (0, 0)) → t ≠ 27 → ¬ some q = (Value.slice ma i mcc).ownBlock := fun q c t hc ht e => by
              obtain ⟨c', hc'⟩ := own_obj hmx e.symm
              rw [hc] at hc'; cases hc'; exact ht rfl
            exact hide ⟨hown2, own_keep hsx (fun g e => by
              obtain ⟨c, hc⟩ := own_obj hsx e
              exact k2.block g (blk_lt hc) (ty g c _ hc (by decide))), hG1.keep k2 (fun q c hc => ty q c _ hc (by decide)), hG2.keep k2 (fun q c hc => ty q c _ hc (by decide)), kE.trans k2 (fun q hq e => absurd (HB1.out ▸ hq) (Nat.not_lt_of_le (hmx.lt q e.symm).1)), Nat.le_trans hsz k2.size⟩
          subst emx
          clear hown2 hgrow2 hat2 hrw2
          go_wp2_with (at_builtin; refine unhid ?_)
          refine wpList_append_row _ rfl _ _ 57 rfl B1 22 i8 _ 1 24 Tryz.underlying57 hi8 hz80 hz81 hz82 rfl (by decide) (.slice sa i scc) i lg rfl (HM3.out.2.1.alloc _) ⟨w2.heap.size, 0, none⟩ 1 1 [.slice xa (m + k) xc] (by first | rfl | (simp; done)) rfl (news_one _ _) (by simp [Value.oneCell']) HbI.out.1 HbI.out.2 (by rw [World.size_alloc]; exact Nat.le_succ_of_le HM3.out.2.2.2.2.2) ?_
          intro sx' w3 hown3 hgrow3 hat3 hrw3
          obtain ⟨sa', scc', esx⟩ := own_slice hown3
          have HM4 : Hid (w3.ownsRow B1 27 1 (.slice ma' (i + 1) mcc') (i + 1) (lm ++ [.slice la (n + k) lc]) ∧ w3.ownsRow B1 22 1 sx' (i + 1) (lg ++ [.slice xa (m + k) xc]) ∧ Gw w3 B B1 41 5 ml mn fM gM 20 (lm ++ [.slice la (n + k) lc]) (i + 1) ∧ Gw w3 B B1 38 3 sl sn fS gS 20 (lg ++ [.slice xa (m + k) xc]) (i + 1) ∧ Kp (fun g => Eb ml g ∨ Eb sl g) w1 w3) := by
            obtain ⟨hmx, hsx, hG1, hG2, kE, hsz⟩ := HM3.out
            have k2 := kp_row (Kp.alloc w2 (.cells #[.slice xa (m + k) xc] 22) Nu) hgrow3
            have ty : ∀ (q : Nat) (c : Array Value) (t : TypeId), w2.heap[q]? = some (.cells c t (0, 0)) → t ≠ 22 → ¬ some q = (Value.slice sa i scc).ownBlock := fun q c t hc ht e => by
              obtain ⟨c', hc'⟩ := own_obj hsx e.symm
              rw [hc] at hc'; cases hc'; exact ht rfl
            exact hide ⟨own_keep hmx (fun g e => by
              obtain ⟨c, hc⟩ := own_obj hmx e
              exact k2.block g (blk_lt hc) (ty g c _ hc (by decide))), hown3, hG1.keep k2 (fun q c hc => ty q c _ hc (by decide)), hG2.keep k2 (fun q c hc => ty q c _ hc (by decide)), kE.trans k2 (fun q hq e => absurd (HB1.out ▸ hq) (Nat.not_lt_of_le (hsx.lt q e.symm).1))⟩
          subst esx
          clear hown3 hgrow3 hat3 hrw3
          go_wp2
          exact ⟨⟨i + 1, ma', mcc', sa', scc', rfl, rfl, by go_num, hlt, hide ⟨_, _, HM4.out.1, HM4.out.2.1, HM4.out.2.2.1, HM4.out.2.2.2.1, HM4.out.2.2.2.2⟩⟩, by simp [intOf]; omega⟩
    · have hltI : ¬ (i : Int) < (MN : Int) := by omega
      have hiM := hide (show i = MN by omega)
      have HI1 : Hid (Gw wr B B1 3 1 il kn fI gI 40 [] 0) := by
        obtain ⟨lm, lg, _, _, _, _, hk⟩ := hE.out
        exact hide (GI0.out.keep hk (fun q cc hc e => e.elim (H1.out.2.1.ne hc (by decide)) (H1.out.2.2.1.ne hc (by decide))))
      have HBr := hide hBr
      have HEI : Hid (En wr B 3 1 il kn (fun j => mkl (fI j) (kn.getD j 0))) := by
        obtain ⟨lm, lg, _, _, _, _, hk⟩ := hE.out
        exact hide (H1.out.2.2.2.1.keep hk (fun g hg e => e.elim (H1.out.2.2.2.1.apart H1.out.2.1 (by decide) g hg) (H1.out.2.2.2.1.apart H1.out.2.2.1 (by decide) g hg)))
      clear hBr hlt GM0 GS0 GI0
      go_wp2
      clear hltI hi hi0 c0 c1 c2
      generalize wr = wA at *
      obtain ⟨BA, eBA⟩ : ∃ BA, wA.heap.size = BA := ⟨_, rfl⟩
      have HBA := hide eBA
      clear eBA
      go_loopw [5, 10] (fun ixv iv wr => ∃ (j : Nat) (xa : Option Addr) (xc : Nat), ixv = .slice xa j xc ∧ iv = .int .i64 (j : Int) ∧ j ≤ IN ∧ Hid (∃ li, wr.ownsRow BA 45 1 (.slice xa j xc) j li ∧ Gw wr B B1 3 1 il kn fI gI 40 li j ∧ Kp (Eb il) wA wr)) (fun _ iv _ => IN - (intOf iv).toNat)
      case atStart => exact ⟨0, none, 0, rfl, rfl, Nat.zero_le _, hide ⟨[], World.ownsRow_nil _ _ _ _, HI1.out, Kp.refl _ _⟩⟩
      case round =>
        obtain ⟨j, xa, xc, rfl, rfl, hj, hF⟩ := hrel
        have hj0 : (0 : Int) ≤ (j : Int) := by omega
        have hB2 : Bk wr B b (.slice (some ⟨mg, 0, none⟩) MN mc) (.slice (some ⟨sg, 0, none⟩) MN sc) (.slice (some ⟨ig, 0, none⟩) IN ic) ml sl il := by
          obtain ⟨li, _, _, hk⟩ := hF.out
          exact HBr.out.keep hk (HBr.out.apart HEI.out (by decide) (by decide) (by decide) (by decide))
        obtain ⟨c0', c1', c2'⟩ := cell3 hB2.blk
        by_cases hlt : j < IN
        · have hltI : (j : Int) < (IN : Int) := by omega
          have etj : (j : Int).toNat = j := by omega
          obtain ⟨li, hix, hGI, hkF⟩ := hF.out
          obtain ⟨v, hv⟩ : ∃ v, il[j]? = some v := ⟨_, List.getElem?_eq_getElem (by have := HN.out; omega)⟩
          obtain ⟨n, hn⟩ : ∃ n, kn[j]? = some n := ⟨_, List.getElem?_eq_getElem (by have := HN.out; have := hGI.lev; omega)⟩
          have hrv := hGI.own j v n (Nat.le_refl _) hv hn
          have HbK : Hid (∀ k, k < 40 → n + k + 1 ≤ maxLen ∧ (n + k + 1) * 8 ≤ 140737488355328) := hide (fun k hk => ⟨by unfold maxLen; have := HA.out.2.2.1 n (List.mem_of_getElem? hn); omega, by have := HA.out.2.2.1 n (List.mem_of_getElem? hn); omega⟩)
          have HbJ : Hid (j + 1 ≤ maxLen ∧ (j + 1) * 24 ≤ 140737488355328) := hide ⟨by unfold maxLen; omega, by omega⟩
          have hn2 := HA.out.2.2.1 n (List.mem_of_getElem? hn)
          have hnI : (n : Int) ≤ 20000 := by omega
          have hcI : wr.cell? ⟨ig, j, none⟩ = some v := own_cell (B := B) (by have h := hB2.i; rw [HN.out.2.2] at h; exact h) hv
          obtain ⟨va, vc, ev⟩ := own_slice hrv
          have hBW : B ≤ wr.heap.size := by have := H1.out.2.2.2.2.2; obtain ⟨_, _, _, _, _, _, hkE⟩ := hE.out; have := hkE.size; have := hkF.size; omega
          have hB1W : B1 ≤ wr.heap.size := by have := HB1.out; obtain ⟨_, _, _, _, _, _, hkE⟩ := hE.out; have := hkE.size; have := hkF.size; omega
          have ew1 : IntKind.i64.wrap (1000 * (j : Int)) = 1000 * (j : Int) := wi64s (by omega) (by omega)
          have ew2 : wrap64 (1000 * (j : Int)) = 1000 * (j : Int) := w64s (by omega) (by omega)
          have HV := hide (And.intro hv (And.intro hn (And.intro hrv (And.intro hix (And.intro hGI hkF)))))
          subst ev
          clear hix hGI hkF hv hn hrv hB2 hF
          go_wp2
          generalize wr = W0 at *
          go_loopw [11, 12] (fun lv kv wr => ∃ (k : Nat) (la : Option Addr) (lc : Nat), lv = .slice la (n + k) lc ∧ kv = .int .i64 (k : Int) ∧ k ≤ 40 ∧ Hid (Gl W0 wr B 3 1 (.slice va n vc) (.slice la (n + k) lc) n (n + k) (mkl (fI j) n) (mkl (gI j) k) ∧ Kp (fun q => some q = (Value.slice va n vc).ownBlock) W0 wr)) (fun _ kv _ => 40 - (intOf kv).toNat)
          case atStart => exact ⟨0, va, vc, rfl, rfl, Nat.zero_le _, hide ⟨Gl.start HV.out.2.2.1, Kp.refl _ _⟩⟩
          case round =>
            obtain ⟨k, la, lc, rfl, rfl, hk, hQ⟩ := hrel
            have hk0 : (0 : Int) ≤ (k : Int) := by omega
            by_cases hlk : k < 40
            · have hlkI : (k : Int) < 40 := by omega
              have ek1 : IntKind.i64.wrap (1000 * (j : Int) + (k : Int)) = 1000 * (j : Int) + (k : Int) := wi64s (by omega) (by omega)
              have ek2 : wrap64 (1000 * (j : Int) + (k : Int)) = 1000 * (j : Int) + (k : Int) := w64s (by omega) (by omega)
              obtain ⟨i0, hiT, hz0, hz1, hz2⟩ := info_parts Pn.info3z
              have hsz : W0.heap.size ≤ wr.heap.size := hQ.out.2.size
              go_wp2_with (at_builtin; refine unhid ?_)
              refine wpList_append_row _ rfl _ _ 45 rfl B 3 i0 _ 1 8 Tryz.underlying45 hiT hz0 hz1 hz2 rfl (by decide) (.slice la (n + k) lc) (n + k) _ rfl (hQ.out.1.own.alloc _) ⟨wr.heap.size, 0, none⟩ 1 1 [.int .i64 (1000 * (j : Int) + (k : Int))] (by first | rfl | (simp; done)) rfl (news_one _ _) (by simp [Value.oneCell']) (HbK.out k hlk).1 (HbK.out k hlk).2 (by rw [World.size_alloc]; exact Nat.le_succ_of_le (Nat.le_trans hBW hsz)) ?_
              clear ek1 ek2 ew1 ew2
              intro l' w2 hown2 hgrow2 hat2 hrw2
              have kal := Kp.alloc wr (.cells #[.int .i64 (1000 * (j : Int) + (k : Int))] 3) Nu
              obtain ⟨hG1, hK1⟩ := hQ.out.1.app (l' := l') (news := gI j k) kal hsz hown2 hgrow2 hat2 hrw2
              rw [← mkl_succ] at hG1
              have hK2 := hK1 _ (fun q e => e) hQ.out.2
              obtain ⟨la', lc', el⟩ := own_slice hown2
              have HQ2 := hide (And.intro hG1 hK2)
              subst el
              clear hown2 hgrow2 hat2 hrw2 hG1 hK1 hK2 kal hsz
              go_wp2
              exact ⟨⟨k + 1, la', lc', rfl, by go_num, by omega, hide ⟨HQ2.out.1, HQ2.out.2⟩⟩, by simp [intOf]; omega⟩
            · have hlkI : ¬ (k : Int) < 40 := by omega
              have hk40 := hide (Nat.le_antisymm hk (Nat.le_of_not_lt hlk))
              clear ew1 ew2
              obtain ⟨i7, hi7, hz70, hz71, hz72⟩ := info_parts info45l
              have HM2 : Hid (wr.ownsRow BA 45 1 (.slice xa j xc) j li ∧ Gw wr B B1 3 1 il kn fI gI 40 (li ++ [.slice la (n + k) lc]) (j + 1) ∧ Kp (Eb il) wA wr ∧ BA ≤ wr.heap.size) := by
                obtain ⟨hv, hn, hrv, hix, hGI, hkF⟩ := HV.out
                refine hide ⟨own_keep hix (fun g e => hQ.out.2.block g (own_lt hix e) (fun e2 => ?_)), hGI.step hv hn hB1W (hQ.out.1.cast hk40.out) hQ.out.2 (fun q cc hc e => e), kp_eb hkF hv hQ.out.2, by have := hQ.out.2.size; have := hkF.size; have := HBA.out; omega⟩
                obtain ⟨c, hc⟩ := own_obj hix e
                obtain ⟨c', hc'⟩ := own_obj hrv e2.symm
                rw [hc] at hc'; cases hc'
              go_wp2_with (at_builtin; refine unhid ?_)
              refine wpList_append_row _ rfl _ _ 58 rfl BA 45 i7 _ 1 24 Tryz.underlying58 hi7 hz70 hz71 hz72 rfl (by decide) (.slice xa j xc) j li rfl (HM2.out.1.alloc _) ⟨wr.heap.size, 0, none⟩ 1 1 [.slice la (n + k) lc] (by first | rfl | (simp; done)) rfl (news_one _ _) (by simp [Value.oneCell']) HbJ.out.1 HbJ.out.2 (by rw [World.size_alloc]; exact Nat.le_succ_of_le HM2.out.2.2.2) ?_
              intro ix' w2 hown2 hgrow2 hat2 hrw2
              clear hk hlk hlkI hk0
              obtain ⟨xa', xc', eix⟩ := own_slice hown2
              have HM3 : Hid (w2.ownsRow BA 45 1 ix' (j + 1) (li ++ [.slice la (n + k) lc]) ∧ Gw w2 B B1 3 1 il kn fI gI 40 (li ++ [.slice la (n + k) lc]) (j + 1) ∧ Kp (Eb il) wA w2) := by
                obtain ⟨hix, hG1, kE, hsz⟩ := HM2.out
                have k2 := kp_row (Kp.alloc wr (.cells #[.slice la (n + k) lc] 45) Nu) hgrow2
                refine hide ⟨hown2, hG1.keep k2 (fun q c hc e => ?_), kE.trans k2 (fun q hq e => ?_)⟩
                · obtain ⟨c', hc'⟩ := own_obj hix e.symm
                  rw [hc] at hc'; cases hc'
                · have h1 := (hix.lt q e.symm).1
                  have h2 := HBA.out
                  exfalso
                  omega
              subst eix
              clear hown2 hgrow2 hat2 hrw2
              go_wp2
              exact ⟨⟨j + 1, xa', xc', rfl, by go_num, by omega, hide ⟨_, HM3.out.1, HM3.out.2.1, HM3.out.2.2⟩⟩, by simp [intOf]; omega⟩
        · have hltI : ¬ (j : Int) < (IN : Int) := by omega
          have hjI := hide (show j = IN by omega)
          have HG : Hid (∃ lm lg li, Grn B1 wr B b (.slice (some ⟨mg, 0, none⟩) MN mc) (.slice (some ⟨sg, 0, none⟩) MN sc) (.slice (some ⟨ig, 0, none⟩) IN ic) ml sl il mn sn kn (.slice ma i mcc) (.slice sa i scc) (.slice xa j xc) lm lg li) := by
            obtain ⟨lm, lg, hmx, hsx, hGM, hGS, hkE⟩ := hE.out
            obtain ⟨li, hix, hGI, hkF⟩ := hF.out
            have ne : ∀ (q : Nat) (c : Array Value) (t : TypeId), wA.heap[q]? = some (.cells c t (0, 0)) → t ≠ 3 → ¬ Eb il q := fun q c t hc ht => HEI.out.ne hc ht
            have rk : ∀ {B' t e n : Nat} {v : Value} {xs : List Value}, wA.ownsRow B' t e v n xs → t ≠ 3 → wr.ownsRow B' t e v n xs := fun hr ht => own_keep hr (fun g e => by
              obtain ⟨c, hc⟩ := own_obj hr e
              exact hkF.block g (blk_lt hc) (ne g c _ hc ht))
            have e1 := hGM.len
            have e2 := hGS.len
            have e3 := hGI.len
            exact hide ⟨lm, lg, li, hB2, (Rdr.of_own (rk hmx (by decide))).cast e1, (Rdr.of_own (rk hsx (by decide))).cast e2, (Rdr.of_own hix).cast e3, (hGM.keep hkF (fun q c hc => ne q c _ hc (by decide))).full, (hGS.keep hkF (fun q c hc => ne q c _ hc (by decide))).full, hGI.full, by rw [e1, hiM.out, HN.out.1], by rw [e2, hiM.out, HN.out.2.1, HN.out.1], by rw [e3, HN.out.2.2]; omega⟩
          have HK : Hid (Kp (fun g => Eb ml g ∨ Eb sl g ∨ Eb il g) w wr) := by
            obtain ⟨lm, lg, _, _, _, _, hkE⟩ := hE.out
            obtain ⟨li, _, _, hkF⟩ := hF.out
            have hk1 := H1.out.2.2.2.2.1
            exact hide ((hk1.trans hkE (fun g _ e => e.elim .inl (fun e => .inr (.inl e)))).trans hkF (fun g _ e => .inr (.inr e)))
          obtain ⟨lm, lg, li, hG0⟩ := HG.out
          have HG0 := hide hG0
          clear hG0 HG hE hF hB2 HBr HEI HI1 H1 HB1 apM hlt HBA
          go_wp2
          clear hltI hj hj0 c0' c1' c2'
          generalize wr = wE at *
          go_loopw [13] (fun iv wr => ∃ p : Nat, iv = .int .i64 (p : Int) ∧ p ≤ MN ∧ Hid (Kp Nu wE wr)) (fun iv _ => MN - (intOf iv).toNat)
          case atStart => exact ⟨0, rfl, Nat.zero_le _, hide (Kp.refl _ _)⟩
          case round =>
            obtain ⟨p, rfl, hp, hkp⟩ := hrel
            have hp0 : (0 : Int) ≤ (p : Int) := by omega
            have hG := HG0.out.nu hkp.out
            obtain ⟨d0, d1, d2⟩ := cell3 hG.bk.blk
            by_cases hltp : p < MN
            · have hltI : (p : Int) < (MN : Int) := by omega
              have etp : (p : Int).toNat = p := by omega
              obtain ⟨v, hv⟩ : ∃ v, ml[p]? = some v := ⟨_, List.getElem?_eq_getElem (by have := HN.out; omega)⟩
              obtain ⟨n, hn⟩ : ∃ n, mn[p]? = some n := ⟨_, List.getElem?_eq_getElem (by have := HN.out; have := hG.gm.lev; omega)⟩
              obtain ⟨s, hs⟩ : ∃ s, sl[p]? = some s := ⟨_, List.getElem?_eq_getElem (by have := HN.out; omega)⟩
              obtain ⟨m, hm⟩ : ∃ m, sn[p]? = some m := ⟨_, List.getElem?_eq_getElem (by have := HN.out; have := hG.gs.lev; omega)⟩
              obtain ⟨l, hl⟩ : ∃ l, lm[p]? = some l := ⟨_, List.getElem?_eq_getElem (by have := HN.out; have := hG.lm; omega)⟩
              obtain ⟨x, hx⟩ : ∃ x, lg[p]? = some x := ⟨_, List.getElem?_eq_getElem (by have := HN.out; have := hG.lg; omega)⟩
              obtain ⟨va, vc, ev⟩ := (hG.gm.old p v n (by have := HN.out; have := hG.lm; omega) hv hn).slice
              obtain ⟨ua, uc, es⟩ := (hG.gs.old p s m (by have := HN.out; have := hG.lg; omega) hs hm).slice
              obtain ⟨la, lc, el⟩ := (hG.gm.new p l n hl hn).slice
              obtain ⟨ya, yc, ex⟩ := (hG.gs.new p x m hx hm).slice
              have hn2 := HA.out.1 n (List.mem_of_getElem? hn)
              have hm2 := HA.out.2.1 m (List.mem_of_getElem? hm)
              have hnI : (n : Int) ≤ 20000 := by omega
              have hmI : (m : Int) ≤ 20000 := by omega
              have hcM : wr.cell? ⟨mg, p, none⟩ = some v := own_cell (B := B) (by have h := hG.bk.m; rw [HN.out.1] at h; exact h) hv
              have hcS : wr.cell? ⟨sg, p, none⟩ = some s := own_cell (B := B) (by have h := hG.bk.s; rw [HN.out.2.1, HN.out.1] at h; exact h) hs
              subst ev
              subst es
              subst el
              subst ex
              have HV := hide (And.intro hv (And.intro hn (And.intro hs (And.intro hm (And.intro hl hx)))))
              have HPL : Hid (p < lm.length ∧ p < lg.length) := hide ⟨by have := HN.out; have := hG.lm; omega, by have := HN.out; have := hG.lg; omega⟩
              clear hv hn hs hm hl hx hG
              go_wp2_with fail
              go_quiet (fail)
              have kW : Kp Nu wr (wr.drewN nq) := kp_dn wr nq
              obtain ⟨W5, hW⟩ : ∃ W, wr.drewN nq = W := ⟨_, rfl⟩
              rw [hW] at kW ⊢
              have H5 := hide (And.intro (HG0.out.nu (hkp.out.andNu kW)) (hkp.out.andNu kW))
              clear hW kW hcM hcS d0 d1 d2 hkp
              have HPF : Hid (p + 1 ≤ MN ∧ MN - (p + 1) < MN - p) := hide ⟨hltp, Nat.sub_lt_sub_left hltp (Nat.lt_succ_self p)⟩
              clear hp hltp hltI
              have HP100 : Hid (p ≤ 100) := hide (Nat.le_trans (Nat.le_of_succ_le HPF.out.1) m2)
              clear m1 m2 i1 i2 hMI hII hBw1 hnI hmI
              have hpMI := lti HPF.out.1
              obtain ⟨eP1, eP2⟩ := wk1 (k := p) (Nat.le_trans HP100.out (by decide))
              obtain ⟨eA1, eA2⟩ := wn20 (n := n) hn2
              go_wp2
              clear eA1 eA2
              go_loopw [16] (fun kv wq => ∃ k : Nat, kv = .int .i64 (k : Int) ∧ k ≤ n + 20 ∧ wq = W5) (fun kv _ => n + 20 - (intOf kv).toNat)
              case atStart => exact ⟨0, rfl, Nat.zero_le _, rfl⟩
              case round =>
                obtain ⟨k, rfl, hk, hw⟩ := hrel
                obtain rfl := hw
                have hk0 := nz k
                have hG := H5.out.1
                obtain ⟨d0, d1, d2⟩ := cell3 hG.bk.blk
                have hcV : wr.cell? ⟨mg, p, none⟩ = some (.slice va n vc) := own_cell (B := B) (by have h := hG.bk.m; rw [HN.out.1] at h; exact h) HV.out.1
                obtain ⟨eA1, eA2⟩ := wn20 (n := n) hn2
                by_cases hlk : k < n + 20
                · have hlkI := lt20 hlk
                  have etk := tn k
                  have hfin := hide (fin20 hlk)
                  obtain ⟨eK1, eK2⟩ := wk1 (k := k) (kle hlk hn2 (by decide))
                  by_cases hkn : k < n
                  · have hknI := lti hkn
                    have dk : decide ((k : Int) < (n : Int)) = true := by simpa using hknI
                    have hngI : ¬ (k : Int) ≥ (n : Int) := Int.not_le.2 hknI
                    have dk2 : decide ((k : Int) ≥ (n : Int)) = false := by simpa using hknI
                    obtain ⟨vg, eva, x0, x1, x2, x3, x4⟩ := hG.gm.fiveO HPL.out.1 HV.out.1 HV.out.2.1 hkn
                    have ewp := wup (p := p) (Nat.le_trans HP100.out (by decide))
                    have ewk := wup (p := k) (Nat.le_trans (Nat.le_of_lt hkn) (Nat.le_trans hn2 (by decide)))
                    subst eva
                    clear hG hk hlk hkn
                    go_wp2
                    exact ⟨⟨k + 1, ins k, hfin.out.1, by first | trivial | rfl⟩, by simp only [intOf]; rw [tns, tn]; exact hfin.out.2⟩
                  · have hknI := nlti hkn
                    have dk : decide ((k : Int) < (n : Int)) = false := by simpa using hknI
                    have hgeI := gei hkn
                    have dk2 : decide ((k : Int) ≥ (n : Int)) = true := by simpa using hgeI
                    obtain ⟨vg, eva, x0, x1, x2, x3, x4⟩ := hG.gm.fiveN HV.out.2.2.2.2.1 HV.out.2.1 (Nat.le_of_not_lt hkn) hlk
                    obtain ⟨mb, ema, hcL⟩ := hG.m.cell2 HV.out.2.2.2.2.1
                    have hpi : (p : Int) < (i : Int) := by rw [hiM.out]; exact lti HPF.out.1
                    have hlI := ltc hlk
                    obtain ⟨ew1, ew2, ew3⟩ := wp1000 HP100.out
                    obtain ⟨ew4, ew5, ew6⟩ := wkn hkn hlk
                    subst eva
                    subst ema
                    clear hG hk hlk hkn
                    go_wp2
                    exact ⟨⟨k + 1, ins k, hfin.out.1, by first | trivial | rfl⟩, by simp only [intOf]; rw [tns, tn]; exact hfin.out.2⟩
                · have hlkI := nlt20 hlk
                  clear hG hk hlk d0 d1 d2 hcV
                  obtain ⟨eA1, eA2⟩ := wn20 (n := m) hm2
                  go_wp2
                  clear eA1 eA2
                  go_loopw [17] (fun kv wq => ∃ k : Nat, kv = .int .i64 (k : Int) ∧ k ≤ m + 20 ∧ wq = wr) (fun kv _ => m + 20 - (intOf kv).toNat)
                  case atStart => exact ⟨0, rfl, Nat.zero_le _, rfl⟩
                  case round =>
                    obtain ⟨k, rfl, hk, hw⟩ := hrel
                    obtain rfl := hw
                    have hk0 := nz k
                    have hG := H5.out.1
                    obtain ⟨d0, d1, d2⟩ := cell3 hG.bk.blk
                    have hcV : wr.cell? ⟨sg, p, none⟩ = some (.slice ua m uc) := own_cell (B := B) (by have h := hG.bk.s; rw [HN.out.2.1, HN.out.1] at h; exact h) HV.out.2.2.1
                    obtain ⟨eA1, eA2⟩ := wn20 (n := m) hm2
                    by_cases hlk : k < m + 20
                    · have hlkI := lt20 hlk
                      have etk := tn k
                      have hfin := hide (fin20 hlk)
                      obtain ⟨eK1, eK2⟩ := wk1 (k := k) (kle hlk hm2 (by decide))
                      by_cases hkn : k < m
                      · have hknI := lti hkn
                        have dk : decide ((k : Int) < (m : Int)) = true := by simpa using hknI
                        have hngI : ¬ (k : Int) ≥ (m : Int) := Int.not_le.2 hknI
                        have dk2 : decide ((k : Int) ≥ (m : Int)) = false := by simpa using hknI
                        obtain ⟨vg, eva, x0, x1, x2⟩ := hG.gs.threeO HPL.out.2 HV.out.2.2.1 HV.out.2.2.2.1 hkn
                        have ewp := wup (p := p) (Nat.le_trans HP100.out (by decide))
                        have ewk := wup (p := k) (Nat.le_trans (Nat.le_of_lt hkn) (Nat.le_trans hm2 (by decide)))
                        subst eva
                        clear hG hk hlk hkn
                        go_wp2
                        exact ⟨⟨k + 1, ins k, hfin.out.1, by first | trivial | rfl⟩, by simp only [intOf]; rw [tns, tn]; exact hfin.out.2⟩
                      · have hknI := nlti hkn
                        have dk : decide ((k : Int) < (m : Int)) = false := by simpa using hknI
                        have hgeI := gei hkn
                        have dk2 : decide ((k : Int) ≥ (m : Int)) = true := by simpa using hgeI
                        obtain ⟨vg, eva, x0, x1, x2⟩ := hG.gs.threeN HV.out.2.2.2.2.2 HV.out.2.2.2.1 (Nat.le_of_not_lt hkn) hlk
                        obtain ⟨mb, ema, hcL⟩ := hG.s.cell2 HV.out.2.2.2.2.2
                        have hpi : (p : Int) < (i : Int) := by rw [hiM.out]; exact lti HPF.out.1
                        have hlI := ltc hlk
                        obtain ⟨ew1, ew2, ew3⟩ := wp1000 HP100.out
                        obtain ⟨ew4, ew5, ew6⟩ := wkn hkn hlk
                        subst eva
                        subst ema
                        clear hG hk hlk hkn
                        go_wp2
                        exact ⟨⟨k + 1, ins k, hfin.out.1, by first | trivial | rfl⟩, by simp only [intOf]; rw [tns, tn]; exact hfin.out.2⟩
                    · have hlkI := nlt20 hlk
                      clear hG hk hlk d0 d1 d2 hcV
                      go_wp2
                      exact ⟨⟨p + 1, ins p, HPF.out.1, hide H5.out.2⟩, by simp only [intOf]; rw [tns, tn]; exact HPF.out.2⟩
            · have hltI := nlti hltp
              have H8 := hide (And.intro hG hkp.out)
              clear hG hkp hp hltp hp0
              go_wp2
              clear hltI d0 d1 d2
              go_loopw [18] (fun iv wq => ∃ q : Nat, iv = .int .i64 (q : Int) ∧ q ≤ IN ∧ wq = wr) (fun iv _ => IN - (intOf iv).toNat)
              case atStart => exact ⟨0, rfl, Nat.zero_le _, rfl⟩
              case round =>
                obtain ⟨q, rfl, hq, hw⟩ := hrel
                obtain rfl := hw
                have hq0 := nz q
                have hG := H8.out.1
                obtain ⟨d0, d1, d2⟩ := cell3 hG.bk.blk
                by_cases hltq : q < IN
                · have hqII := lti hltq
                  have etq := tn q
                  obtain ⟨v, hv⟩ : ∃ v, il[q]? = some v := ⟨_, List.getElem?_eq_getElem (by rw [HN.out.2.2]; exact hltq)⟩
                  obtain ⟨n, hn⟩ : ∃ n, kn[q]? = some n := ⟨_, List.getElem?_eq_getElem (by rw [hG.gi.lev, HN.out.2.2]; exact hltq)⟩
                  have hql : q < li.length := by rw [hG.li, HN.out.2.2]; exact hltq
                  obtain ⟨l, hl⟩ : ∃ l, li[q]? = some l := ⟨_, List.getElem?_eq_getElem hql⟩
                  obtain ⟨va, vc, ev⟩ := (hG.gi.old q v n hql hv hn).slice
                  obtain ⟨la, lc, el⟩ := (hG.gi.new q l n hl hn).slice
                  have hn2 := HA.out.2.2.1 n (List.mem_of_getElem? hn)
                  have hcI : wr.cell? ⟨ig, q, none⟩ = some v := own_cell (B := B) (by have h := hG.bk.i; rw [HN.out.2.2] at h; exact h) hv
                  subst ev
                  subst el
                  have HV := hide (And.intro hv (And.intro hn (And.intro hl hql)))
                  have HQF : Hid (q + 1 ≤ IN ∧ IN - (q + 1) < IN - q) := hide (fin20 hltq)
                  have HQ100 : Hid (q ≤ 100) := hide (Nat.le_trans (Nat.le_of_lt hltq) i2)
                  obtain ⟨eQ1, eQ2⟩ := wk1 (k := q) (Nat.le_trans HQ100.out (by decide))
                  obtain ⟨eA1, eA2⟩ := wn40 (n := n) hn2
                  clear hv hn hl hql hG hq hltq m1 m2 i1 i2 hMI hII hBw1
                  go_wp2
                  clear eA1 eA2 hcI d0 d1 d2
                  go_loopw [20] (fun kv wq => ∃ k : Nat, kv = .int .i64 (k : Int) ∧ k ≤ n + 40 ∧ wq = wr) (fun kv _ => n + 40 - (intOf kv).toNat)
                  case atStart => exact ⟨0, rfl, Nat.zero_le _, rfl⟩
                  case round =>
                    obtain ⟨k, rfl, hk, hw⟩ := hrel
                    obtain rfl := hw
                    have hk0 := nz k
                    have hG := H8.out.1
                    obtain ⟨d0, d1, d2⟩ := cell3 hG.bk.blk
                    have hcV : wr.cell? ⟨ig, q, none⟩ = some (.slice va n vc) := own_cell (B := B) (by have h := hG.bk.i; rw [HN.out.2.2] at h; exact h) HV.out.1
                    obtain ⟨eA1, eA2⟩ := wn40 (n := n) hn2
                    by_cases hlk : k < n + 40
                    · have hlkI := lt40 hlk
                      have etk := tn k
                      have hfin := hide (fin20 hlk)
                      obtain ⟨eK1, eK2⟩ := wk1 (k := k) (kle hlk hn2 (by decide))
                      by_cases hkn : k < n
                      · have hknI := lti hkn
                        have dk : decide ((k : Int) < (n : Int)) = true := by simpa using hknI
                        have hngI : ¬ (k : Int) ≥ (n : Int) := Int.not_le.2 hknI
                        have dk2 : decide ((k : Int) ≥ (n : Int)) = false := by simpa using hknI
                        obtain ⟨vg, eva, x0⟩ := hG.gi.oneO HV.out.2.2.2 HV.out.1 HV.out.2.1 hkn
                        obtain ⟨⟨f1, f2, f3⟩, f4, f5, f6⟩ := wneg HQ100.out hlk hn2
                        subst eva
                        clear hG hk hlk hkn
                        go_wp2
                        exact ⟨⟨k + 1, ins k, hfin.out.1, by first | trivial | rfl⟩, by simp only [intOf]; rw [tns, tn]; exact hfin.out.2⟩
                      · have hknI := nlti hkn
                        have dk : decide ((k : Int) < (n : Int)) = false := by simpa using hknI
                        have hgeI := gei hkn
                        have dk2 : decide ((k : Int) ≥ (n : Int)) = true := by simpa using hgeI
                        obtain ⟨vg, eva, x0⟩ := hG.gi.oneN HV.out.2.2.1 HV.out.2.1 (Nat.le_of_not_lt hkn) hlk
                        obtain ⟨mb, ema, hcL⟩ := hG.i.cell2 HV.out.2.2.1
                        have hpi : (q : Int) < (j : Int) := by rw [hjI.out]; exact lti HQF.out.1
                        have hlI := ltc hlk
                        obtain ⟨⟨f1, f2, f3⟩, f4, f5, f6⟩ := wpos HQ100.out hlk hn2
                        subst eva
                        subst ema
                        clear hG hk hlk hkn
                        go_wp2
                        exact ⟨⟨k + 1, ins k, hfin.out.1, by first | trivial | rfl⟩, by simp only [intOf]; rw [tns, tn]; exact hfin.out.2⟩
                    · have hlkI := nlt40 hlk
                      clear hG hk hlk d0 d1 d2 hcV
                      go_wp2
                      exact ⟨⟨q + 1, ins q, HQF.out.1, by first | trivial | rfl⟩, by simp only [intOf]; rw [tns, tn]; exact HQF.out.2⟩
                · have hqII := nlti hltq
                  clear hG hq hltq
                  go_wp2
                  go_ret
                  exact ⟨rfl, HK.out.andNu H8.out.2⟩
end Go.Proofs.YtbifmcadllilhaaGreat.Rg
