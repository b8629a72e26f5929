import Derived.Test.YthajboipnjjgfaaFrE
namespace Go.Proofs.Ythajboipnjjgfaa.Ly
open Go.RowKit Go.Maps
set_option linter.unusedVariables false

def bs2 : Nat → Bool := upd (upd (fun _ => false) ((20 : Int).toNat * 256 + (21 : Int).toNat) true) ((22 : Int).toNat * 256 + (23 : Int).toNat) true
theorem tru2 : tru bs2 top = [5141, 5655] := by
  refine sorted_eq (· < ·) (fun x => Nat.lt_irrefl x) (fun x y h => by omega) _ _ ?_ (by decide) ?_
  · exact List.Pairwise.filter _ (range_sorted _)
  · intro x
    rw [mem_tru]
    simp only [bs2, upd, top, List.mem_cons, List.not_mem_nil, or_false]
    constructor
    · rintro ⟨h1, h2⟩
      by_cases e : x = 5655
      · exact .inr e
      · by_cases e' : x = 5141
        · exact .inl e'
        · simp [e, e'] at h2
    · rintro (rfl | rfl) <;> simp
theorem srt2 {D : DataW Unit} {ss : List (Int × Int)} (hs : Ks D ss) (h : Brs D bs2) : srt ss = [(20, 21), (22, 23)] := by
  rw [srt_eq hs h, tru2]
  decide
theorem brs0 : Brs (.map []) (fun _ => false) := fun f t _ _ _ _ => rfl
theorem tru0 : tru (fun _ => false) top = [] := by simp [tru]
theorem ks0 {ss : List (Int × Int)} (hs : Ks (.map []) ss) : ss = [] := by
  have h := srt_eq hs brs0
  rw [tru0] at h
  have := srt_len ss
  rw [h] at this
  exact List.eq_nil_of_length_eq_zero (by simpa using this.symm)

/-- the list of the two links, as it lies -/
def Tl (w : World) (B r cap : Nat) : Prop := w.ownsRow B 86 2 (.slice (some ⟨r, 0, none⟩) 2 cap) 2 [.int .u8 20, .int .u8 21, .int .u8 22, .int .u8 23]
theorem Tl.cells {w : World} {B r cap : Nat} (h : Tl w B r cap) : w.cell? ⟨r, 0, none⟩ = some (.int .u8 20) ∧ w.cell? ⟨r, 1, none⟩ = some (.int .u8 21) ∧ w.cell? ⟨r, 2, none⟩ = some (.int .u8 22) ∧ w.cell? ⟨r, 3, none⟩ = some (.int .u8 23) := by
  have hc := World.ownsRow.cells h (g := r) rfl
  refine ⟨?_, ?_, ?_, ?_⟩
  · simpa [Addr.add_lit] using hc 0 _ rfl
  · simpa [Addr.add_lit] using hc 1 _ rfl
  · simpa [Addr.add_lit] using hc 2 _ rfl
  · simpa [Addr.add_lit] using hc 3 _ rfl
theorem Tl.of {w' : World} {B : Nat} {u : Value} {D : DataW Unit} {ss : List (Int × Int)} (hs : Ks D ss) (h : Brs D bs2) (ho : w'.ownsRow B 86 2 u ss.length (ecs (srt ss))) : ∃ r cap, u = .slice (some ⟨r, 0, none⟩) 2 cap ∧ Tl w' B r cap ∧ B ≤ r := by
  have hl := srt_len ss
  rw [srt2 hs h] at ho hl
  have hl2 : ss.length = 2 := by simpa using hl.symm
  rw [hl2] at ho
  rcases ho.2 with ⟨_, h0⟩ | ⟨r, cap, cur, e, hB, _⟩
  · omega
  · subst e
    exact ⟨r, cap, rfl, ho, hB⟩
theorem Tl.keep {w w' : World} {B r cap : Nat} (h : Tl w B r cap) (hk : w'.heap[r]? = w.heap[r]?) : Tl w' B r cap := own_keep h (fun g hg => by cases hg; exact hk)
end Go.Proofs.Ythajboipnjjgfaa.Ly
namespace Go.Proofs.Ythajboipnjjgfaa.Ly
open Go.RowKit Go.Maps
set_option linter.unusedVariables false

/-- while the list of links grows: all but the block that it lay in stands -/
structure Lg (w wt : World) (ra q : Nat) (lv : Value) : Prop where
  kp : Kp (fun i => i = ra) w wt
  own : ∃ xs, wt.ownsRow 0 86 2 lv q xs
  lie : ∀ g, lv.ownBlock = some g → g = ra ∨ w.heap.size ≤ g

theorem two_new (w : World) (a b : Obj) : ((w.alloc a).alloc b).drew.heap[w.heap.size]? = some a ∧ ((w.alloc a).alloc b).drew.heap[w.heap.size + 1]? = some b :=
  ⟨(Below.heap_alloc (w.alloc a) b _ (blk_lt (heap_alloc_new w a))).trans (heap_alloc_new w a), heap_alloc2_new w a b⟩
theorem Lg.start {W0 : World} {Bq ra ca : Nat} (hTa : Tl W0 Bq ra ca) : Lg W0 ((((W0.setCell ⟨ra, 0, none⟩ (.int .u8 0)).setCell ⟨ra, 1, none⟩ (.int .u8 0)).setCell ⟨ra, 2, none⟩ (.int .u8 0)).setCell ⟨ra, 3, none⟩ (.int .u8 0)) ra 2 (.slice (some ⟨ra, 0, none⟩) 2 ca) := by
  have k0 : Kp (fun i => i = ra) W0 W0 := Kp.refl _ W0
  have k1 := k0.andSet ⟨ra, 0, none⟩ (.int .u8 0) (.inr rfl)
  have k2 := k1.andSet ⟨ra, 1, none⟩ (.int .u8 0) (.inr rfl)
  have k3 := k2.andSet ⟨ra, 2, none⟩ (.int .u8 0) (.inr rfl)
  have k4 := k3.andSet ⟨ra, 3, none⟩ (.int .u8 0) (.inr rfl)
  refine ⟨k4, ?_, fun g hg => by cases hg; exact .inl rfl⟩
  have o1 := (World.ownsRow.stored hTa 0 (.int .u8 0)).1
  have o2 := (o1.stored 1 (.int .u8 0)).1
  have o3 := (o2.stored 2 (.int .u8 0)).1
  have o4 := (o3.stored 3 (.int .u8 0)).1
  exact ⟨_, own_base o4 (Nat.zero_le _)⟩

set_option maxRecDepth 100000 in
set_option maxHeartbeats 1000000 in
theorem links_any {B b bm : Nat} {w : World} {room : Int} {v : Value} {c : Ct} {L : List Gm} (h : Nt B w b bm 0 room (.map []) v c L) :
    Calls Try.prog 24 #[.pointer (some ⟨b, 0, none⟩)] w fun e w' => e = .returned (.bool true) ∧ Nt B w' b bm 0 room (.map []) v c L ∧ Fr b bm v w w' v := by
  obtain ⟨i86, hi86, hz0, hz1, hz2⟩ := info_parts info86
  have B1 := block_any h 20 21 (by omega) (by omega) (by omega) (by omega) (by unfold maxLen; omega)
  have hbr1 := Brs.block h.map brs0 (f := 20) (t := 21) (by omega) (by omega) (by omega) (by omega)
  have HBR := hide hbr1
  clear h hbr1
  go_enter Try.func24, Try.ntmps24
  go_wp2_with fail
  refine B1.mono ?_; rintro e w1 ⟨rfl, hN1, hF1⟩
  have nm := num_any 0 w1
  have B2 := block_any hN1 22 23 (by omega) (by omega) (by omega) (by omega) (by unfold maxLen; omega)
  have HB2 : Hid (Brs _ bs2) := Brs.block hN1.map HBR.out (f := 22) (t := 23) (by omega) (by omega) (by omega) (by omega)
  have HF1 := hide hF1
  clear B1 hN1 hF1 HBR
  go_wp2_with fail
  refine nm.mono ?_; rintro e wz ⟨rfl, hw⟩
  obtain rfl := hw.symm
  clear nm hw
  go_wp2_with fail
  refine B2.mono ?_; rintro e w2 ⟨rfl, hN2, hF2⟩
  have nm := num_any 0 w2
  have HF2 := hide (HF1.out.trans hF2)
  have HSZ := hide (size_tru hN2.map HB2.out)
  have HN2 := hide hN2
  clear B2 hN2 hF2 HF1
  go_wp2_with fail
  refine nm.mono ?_; rintro e wz ⟨rfl, hw⟩
  obtain rfl := hw.symm
  clear nm hw
  have K1 := blocked_any HN2.out (by omega)
  go_wp2_with fail
  refine K1.mono ?_; rintro e w3 ⟨u, ss, rfl, hKs, ho, hk3⟩
  obtain ⟨ra, ca, rfl, hTa, hra⟩ := Tl.of hKs HB2.out ho
  have K2 := blocked_any (HN2.out.nu hk3) (by omega)
  have HTA := hide (And.intro hTa hra)
  have HK3 := hide hk3
  clear K1 hKs ho hTa hk3 hra
  go_wp2_with fail
  refine K2.mono ?_; rintro e w4 ⟨u, ss2, rfl, hKs, ho, hk4⟩
  obtain ⟨rb, cb, rfl, hTb, hrb⟩ := Tl.of hKs HB2.out ho
  have hra4 : ra < w3.heap.size := own_lt HTA.out.1 rfl
  have HRR : Hid (ra ≠ rb ∧ ra < w3.heap.size ∧ w3.heap.size ≤ rb ∧ w2.heap.size ≤ ra) := ⟨by omega, hra4, hrb, HTA.out.2⟩
  have hTa := HTA.out.1.keep (hk4.block ra hra4 (fun h => h))
  have HT := hide (And.intro hTa hTb)
  obtain ⟨x0, x1, x2, x3⟩ := hTa.cells
  obtain ⟨y0, y1, y2, y3⟩ := hTb.cells
  have HK4 := hide (HK3.out.andNu hk4)
  clear K2 hKs ho hTb hTa hrb hk4 hra4 HTA HK3
  have fz : ∀ o, w4.frozen? ⟨ra, o, none⟩ = false := fun o => World.ownsRow.frozenAt HT.out.1 o
  have HSS : ∀ W, Kp Nu w4 W → W.cell? ⟨rb, 0, none⟩ = some (.int .u8 20) ∧ W.cell? ⟨rb, 1, none⟩ = some (.int .u8 21) ∧ W.cell? ⟨rb, 2, none⟩ = some (.int .u8 22) ∧ W.cell? ⟨rb, 3, none⟩ = some (.int .u8 23) := fun W k => (HT.out.2.keep (k.block rb (own_lt HT.out.2 rfl) (fun h => h))).cells
  clear y0 y1 y2 y3
  go_wp2_with fail
  go_region_held (fun W => W.cell? ⟨rb, 0, none⟩ = some (.int .u8 20) ∧ W.cell? ⟨rb, 1, none⟩ = some (.int .u8 21) ∧ W.cell? ⟨rb, 2, none⟩ = some (.int .u8 22) ∧ W.cell? ⟨rb, 3, none⟩ = some (.int .u8 23)) (first | (refine HSS _ ?_; repeat (first | assumption | exact Kp.refl _ _ | apply Kp.andAlloc | apply Kp.drew | (refine Kp.andSet ?_ _ _ (.inl (by simp)))))) (fail)
  · obtain ⟨W0, hW0⟩ : ∃ W, ((w4.alloc (.cells #[.int .u8 20, .int .u8 21] 86)).alloc (.cells #[.int .u8 22, .int .u8 23] 86)).drew = W := ⟨_, rfl⟩
    have KW : Kp Nu w4 W0 := by rw [← hW0]; exact (((Kp.refl _ w4).andAlloc _).andAlloc _).drew
    have bx : W0.heap[w4.heap.size]? = some (.cells #[.int .u8 20, .int .u8 21] 86 (0, 0)) := by
      rw [← hW0]
      exact (two_new w4 _ _).1
    have bY : W0.heap[w4.heap.size + 1]? = some (.cells #[.int .u8 22, .int .u8 23] 86 (0, 0)) := by
      rw [← hW0]
      exact (two_new w4 _ _).2
    rw [hW0]
    have hTa := HT.out.1.keep (KW.block ra (own_lt HT.out.1 rfl) (fun h => h))
    obtain ⟨x0, x1, x2, x3⟩ := hTa.cells
    have fz : ∀ o, W0.frozen? ⟨ra, o, none⟩ = false := fun o => World.ownsRow.frozenAt hTa o
    have HBX := hide (And.intro bx (And.intro bY KW))
    have HL0 : Hid (Lg W0 ((((W0.setCell ⟨ra, 0, none⟩ (.int .u8 0)).setCell ⟨ra, 1, none⟩ (.int .u8 0)).setCell ⟨ra, 2, none⟩ (.int .u8 0)).setCell ⟨ra, 3, none⟩ (.int .u8 0)) ra 2 (.slice (some ⟨ra, 0, none⟩) 2 ca)) := Lg.start hTa
    clear bx bY KW hTa HSS
    go_wp2_with fail
    clear x0 x1 x2 x3 fz
    go_loopw [7, 8] (fun l i wt => ∃ (k : Nat) (ad : Option Addr) (cp : Nat), k ≤ 80 ∧ i = .int .i64 (k : Int) ∧ l = .slice ad (2 + k) cp ∧ Hid (Lg W0 wt ra (2 + k) (.slice ad (2 + k) cp))) (fun _ i _ => 80 - (intOf i).toNat)
    case atStart => exact ⟨0, _, _, by omega, rfl, rfl, HL0⟩
    case round =>
      obtain ⟨k, ad, cp, hk, rfl, rfl, hI⟩ := hrel
      clear HL0
      by_cases hlt : k < 80
      · have hltI : (k : Int) < 80 := by omega
        go_wp2_with (first
          | (at_builtin
             obtain ⟨xs, hxs⟩ := hI.out.own
             refine wpList_append_own_at _ rfl _ _ 83 rfl 0 86 i86 (.agg #[.int .u8 0, .int .u8 0]) 2 2 Try.underlying83 hi86 hz0 hz1 hz2 rfl (by decide) _ _ _ rfl (hxs.alloc _) ⟨wr.heap.size, 0, none⟩ 1 1 [.int .u8 0, .int .u8 0] rfl rfl (cell_two_new _ _ _ _) (by simp [Value.oneCell']) (by unfold maxLen; omega) (by omega) (by simp) ?_
             intro v' w7 ho hg hnil hat
             have HL1 : Hid (Lg W0 w7 ra (2 + k + 1) v') := ⟨(hI.out.kp.andAlloc _).trans (Kp.of_grown hg) (fun i hi e => by rcases hI.out.lie i e.symm with e | e; exact e; omega), ⟨_, ho⟩, fun g hgv => by
               rcases hat with e | e
               · rw [e] at hgv; exact hI.out.lie g hgv
               · rw [e] at hgv; cases hgv; exact .inr ((hI.out.kp.andAlloc _).size)⟩
             obtain ⟨ad1, cp1, ev⟩ := own_slice ho
             subst ev
             clear hxs ho hg hnil hat hI)
          | go_in)
        exact ⟨⟨k + 1, ad1, cp1, by omega, by go_num, rfl, HL1⟩, by simp [intOf]; omega⟩
      · obtain rfl : k = 80 := by omega
        have hge : ¬ ((80 : Nat) : Int) < 80 := by omega
        obtain ⟨bx, bY, KW⟩ := HBX.out
        have hra : ra < w4.heap.size := own_lt HT.out.1 rfl
        have hrb : rb < w4.heap.size := own_lt HT.out.2 rfl
        have kA : Kp Nu w2 W0 := HK4.out.andNu KW
        have kB : Kp Nu w2 wr := kA.trans hI.out.kp (fun i hi e => by have := HRR.out.2.2.2; omega)
        have HNr := hide (HN2.out.nu kB)
        have hTb : Tl wr w3.heap.size rb cb := (HT.out.2.keep (KW.block rb hrb (fun h => h))).keep (hI.out.kp.block rb (Nat.lt_of_lt_of_le hrb KW.size) (fun e => HRR.out.1 e.symm))
        have cX : wr.heap[w4.heap.size]? = some (.cells #[.int .u8 20, .int .u8 21] 86 (0, 0)) := (hI.out.kp.block _ (blk_lt bx) (fun e => by omega)).trans bx
        have cY : wr.heap[w4.heap.size + 1]? = some (.cells #[.int .u8 22, .int .u8 23] 86 (0, 0)) := (hI.out.kp.block _ (blk_lt bY) (fun e => by omega)).trans bY
        have K3 := blocked_any HNr.out (by omega)
        have HB0 := hide (And.intro hTb (And.intro cX (And.intro cY kB)))
        clear bx bY KW kA kB hTb cX cY HBX hI hra hrb HT HK4
        go_wp2_with fail
        refine K3.mono ?_; rintro e w8 ⟨u, ss3, rfl, hKs, ho, hk8⟩
        obtain ⟨rc, cc, rfl, hTc, _⟩ := Tl.of hKs HB2.out ho
        obtain ⟨hTb, cX, cY, kB⟩ := HB0.out
        have hTb8 := hTb.keep (hk8.block rb (own_lt hTb rfl) (fun h => h))
        obtain ⟨y0, y1, y2, y3⟩ := hTb8.cells
        obtain ⟨z0, z1, z2, z3⟩ := hTc.cells
        obtain ⟨p0, p1⟩ := cell2 ((hk8.block _ (blk_lt cX) (fun h => h)).trans cX)
        obtain ⟨q0, q1⟩ := cell2 ((hk8.block _ (blk_lt cY) (fun h => h)).trans cY)
        have HE := hide (And.intro (HNr.out.nu hk8) (kB.andNu hk8))
        clear K3 hKs ho hTc hTb hTb8 cX cY kB hk8 HB0 HNr
        go_wp2_with fail
        go_quiet (fail)
        have kq := kp_drewN w8 nq
        have HA := heal_all (HE.out.1.nu kq)
        rw [HSZ.out, tru2] at HA
        have HE2 := hide (HE.out.2.andNu kq)
        clear y0 y1 y2 y3 z0 z1 z2 z3 p0 p1 q0 q1 kq HE
        go_wp2_with fail
        refine HA.mono ?_; rintro e w9 ⟨rfl, hN9, hF9⟩
        have K4 := blocked_any hN9 (by omega)
        have HF9 := hide (And.intro hN9 ((HF2.out.trans (Fr.of_nu HE2.out)).trans hF9))
        clear HA hN9 hF9 HE2
        go_wp2_with fail
        refine K4.mono ?_; rintro e wA ⟨u, ss4, rfl, hKs, ho, hkA⟩
        obtain rfl := ks0 hKs
        obtain ⟨adz, cpz, hz⟩ := own_slice ho
        subst hz
        have HFA := hide (And.intro (HF9.out.1.nu hkA) (HF9.out.2.trans (Fr.of_nu hkA)))
        clear K4 hKs ho hkA
        go_wp2
        go_ret
        exact ⟨rfl, HFA.out⟩
  · obtain ⟨W0, hW0⟩ : ∃ W, ((w4.alloc (.cells #[.int .u8 22, .int .u8 23] 86)).alloc (.cells #[.int .u8 20, .int .u8 21] 86)).drew = W := ⟨_, rfl⟩
    have KW : Kp Nu w4 W0 := by rw [← hW0]; exact (((Kp.refl _ w4).andAlloc _).andAlloc _).drew
    have bx : W0.heap[w4.heap.size + 1]? = some (.cells #[.int .u8 20, .int .u8 21] 86 (0, 0)) := by
      rw [← hW0]
      exact (two_new w4 _ _).2
    have bY : W0.heap[w4.heap.size]? = some (.cells #[.int .u8 22, .int .u8 23] 86 (0, 0)) := by
      rw [← hW0]
      exact (two_new w4 _ _).1
    rw [hW0]
    have hTa := HT.out.1.keep (KW.block ra (own_lt HT.out.1 rfl) (fun h => h))
    obtain ⟨x0, x1, x2, x3⟩ := hTa.cells
    have fz : ∀ o, W0.frozen? ⟨ra, o, none⟩ = false := fun o => World.ownsRow.frozenAt hTa o
    have HBX := hide (And.intro bx (And.intro bY KW))
    have HL0 : Hid (Lg W0 ((((W0.setCell ⟨ra, 0, none⟩ (.int .u8 0)).setCell ⟨ra, 1, none⟩ (.int .u8 0)).setCell ⟨ra, 2, none⟩ (.int .u8 0)).setCell ⟨ra, 3, none⟩ (.int .u8 0)) ra 2 (.slice (some ⟨ra, 0, none⟩) 2 ca)) := Lg.start hTa
    clear bx bY KW hTa HSS
    go_wp2_with fail
    clear x0 x1 x2 x3 fz
    go_loopw [7, 8] (fun l i wt => ∃ (k : Nat) (ad : Option Addr) (cp : Nat), k ≤ 80 ∧ i = .int .i64 (k : Int) ∧ l = .slice ad (2 + k) cp ∧ Hid (Lg W0 wt ra (2 + k) (.slice ad (2 + k) cp))) (fun _ i _ => 80 - (intOf i).toNat)
    case atStart => exact ⟨0, _, _, by omega, rfl, rfl, HL0⟩
    case round =>
      obtain ⟨k, ad, cp, hk, rfl, rfl, hI⟩ := hrel
      clear HL0
      by_cases hlt : k < 80
      · have hltI : (k : Int) < 80 := by omega
        go_wp2_with (first
          | (at_builtin
             obtain ⟨xs, hxs⟩ := hI.out.own
             refine wpList_append_own_at _ rfl _ _ 83 rfl 0 86 i86 (.agg #[.int .u8 0, .int .u8 0]) 2 2 Try.underlying83 hi86 hz0 hz1 hz2 rfl (by decide) _ _ _ rfl (hxs.alloc _) ⟨wr.heap.size, 0, none⟩ 1 1 [.int .u8 0, .int .u8 0] rfl rfl (cell_two_new _ _ _ _) (by simp [Value.oneCell']) (by unfold maxLen; omega) (by omega) (by simp) ?_
             intro v' w7 ho hg hnil hat
             have HL1 : Hid (Lg W0 w7 ra (2 + k + 1) v') := ⟨(hI.out.kp.andAlloc _).trans (Kp.of_grown hg) (fun i hi e => by rcases hI.out.lie i e.symm with e | e; exact e; omega), ⟨_, ho⟩, fun g hgv => by
               rcases hat with e | e
               · rw [e] at hgv; exact hI.out.lie g hgv
               · rw [e] at hgv; cases hgv; exact .inr ((hI.out.kp.andAlloc _).size)⟩
             obtain ⟨ad1, cp1, ev⟩ := own_slice ho
             subst ev
             clear hxs ho hg hnil hat hI)
          | go_in)
        exact ⟨⟨k + 1, ad1, cp1, by omega, by go_num, rfl, HL1⟩, by simp [intOf]; omega⟩
      · obtain rfl : k = 80 := by omega
        have hge : ¬ ((80 : Nat) : Int) < 80 := by omega
        obtain ⟨bx, bY, KW⟩ := HBX.out
        have hra : ra < w4.heap.size := own_lt HT.out.1 rfl
        have hrb : rb < w4.heap.size := own_lt HT.out.2 rfl
        have kA : Kp Nu w2 W0 := HK4.out.andNu KW
        have kB : Kp Nu w2 wr := kA.trans hI.out.kp (fun i hi e => by have := HRR.out.2.2.2; omega)
        have HNr := hide (HN2.out.nu kB)
        have hTb : Tl wr w3.heap.size rb cb := (HT.out.2.keep (KW.block rb hrb (fun h => h))).keep (hI.out.kp.block rb (Nat.lt_of_lt_of_le hrb KW.size) (fun e => HRR.out.1 e.symm))
        have cX : wr.heap[w4.heap.size + 1]? = some (.cells #[.int .u8 20, .int .u8 21] 86 (0, 0)) := (hI.out.kp.block _ (blk_lt bx) (fun e => by omega)).trans bx
        have cY : wr.heap[w4.heap.size]? = some (.cells #[.int .u8 22, .int .u8 23] 86 (0, 0)) := (hI.out.kp.block _ (blk_lt bY) (fun e => by omega)).trans bY
        have K3 := blocked_any HNr.out (by omega)
        have HB0 := hide (And.intro hTb (And.intro cX (And.intro cY kB)))
        clear bx bY KW kA kB hTb cX cY HBX hI hra hrb HT HK4
        go_wp2_with fail
        refine K3.mono ?_; rintro e w8 ⟨u, ss3, rfl, hKs, ho, hk8⟩
        obtain ⟨rc, cc, rfl, hTc, _⟩ := Tl.of hKs HB2.out ho
        obtain ⟨hTb, cX, cY, kB⟩ := HB0.out
        have hTb8 := hTb.keep (hk8.block rb (own_lt hTb rfl) (fun h => h))
        obtain ⟨y0, y1, y2, y3⟩ := hTb8.cells
        obtain ⟨z0, z1, z2, z3⟩ := hTc.cells
        obtain ⟨p0, p1⟩ := cell2 ((hk8.block _ (blk_lt cX) (fun h => h)).trans cX)
        obtain ⟨q0, q1⟩ := cell2 ((hk8.block _ (blk_lt cY) (fun h => h)).trans cY)
        have HE := hide (And.intro (HNr.out.nu hk8) (kB.andNu hk8))
        clear K3 hKs ho hTc hTb hTb8 cX cY kB hk8 HB0 HNr
        go_wp2_with fail
        go_quiet (fail)
        have kq := kp_drewN w8 nq
        have HA := heal_all (HE.out.1.nu kq)
        rw [HSZ.out, tru2] at HA
        have HE2 := hide (HE.out.2.andNu kq)
        clear y0 y1 y2 y3 z0 z1 z2 z3 p0 p1 q0 q1 kq HE
        go_wp2_with fail
        refine HA.mono ?_; rintro e w9 ⟨rfl, hN9, hF9⟩
        have K4 := blocked_any hN9 (by omega)
        have HF9 := hide (And.intro hN9 ((HF2.out.trans (Fr.of_nu HE2.out)).trans hF9))
        clear HA hN9 hF9 HE2
        go_wp2_with fail
        refine K4.mono ?_; rintro e wA ⟨u, ss4, rfl, hKs, ho, hkA⟩
        obtain rfl := ks0 hKs
        obtain ⟨adz, cpz, hz⟩ := own_slice ho
        subst hz
        have HFA := hide (And.intro (HF9.out.1.nu hkA) (HF9.out.2.trans (Fr.of_nu hkA)))
        clear K4 hKs ho hkA
        go_wp2
        go_ret
        exact ⟨rfl, HFA.out⟩
end Go.Proofs.Ythajboipnjjgfaa.Ly
