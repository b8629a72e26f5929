import Derived.Test.YtbifmcadllilhaaGreatQsH
import Derived.Test.YtbifmcadllilhaaGreatPtT
import Derived.Shelf.SlSortCmp.Xorshift
namespace Go.Proofs.YtbifmcadllilhaaGreat.Rg
open Go.RowKit Go.Shelf Go.Sort
set_option linter.unusedVariables false
theorem Dx.new {w : World} {B g n c : Nat} {l : List Int} (h : Dr w B g n c l) : Dx (w.alloc (.cells #[.int .i64 0] 3)) B g n c l w.heap.size 0 :=
  ⟨h.nu (Kp.alloc _ _ _), by have := own_lt h.own (g := g) rfl; omega, by simp [go_sem], by simp [go_sem]⟩
theorem Kp.box {w w' : World} {o : Obj} (k : Kp (fun k => k = w.heap.size) (w.alloc o) w') : Kp Nu w w' := (Kp.alloc w o Nu).trans k (fun i hi e => by omega)
set_option maxRecDepth 100000 in
set_option maxHeartbeats 2000000 in
theorem choose124 (w : World) (B g n c : Nat) (l : List Int) (a b : Nat) (hD : Dr w B g n c l) (hab : a + 13 ≤ b) (hb : b ≤ n) (hn : n ≤ 1000000) :
    Calls Tryz.prog 101 #[.slice (some ⟨g, 0, none⟩) n c, .int .i64 (a : Int), .int .i64 (b : Int)] w fun e w' => ∃ p h : Nat, e = .returned (.tuple #[.int .i64 (p : Int), .int .i64 (h : Int)]) ∧ a ≤ p ∧ p < b ∧ h ≤ 2 ∧ Dr w' B g n c l ∧ Kp Nu w w' := by
  have mixed : Tryz.prog.follows .mixedOrders = true := by kernel_rfl
  obtain ⟨m, hm⟩ : ∃ m : Nat, a + m = b := ⟨b - a, by omega⟩
  have ebI : (b : Int) - (a : Int) = (m : Int) := by omega
  have ebW : IntKind.i64.wrap ((b : Int) - (a : Int)) = (m : Int) := by rw [IntKind.wrap_i64]; omega
  obtain ⟨L, hL⟩ : ∃ L : Nat, m / 4 = L := ⟨_, rfl⟩
  have hL3 : 3 ≤ L := by omega
  have hLm : 4 * L ≤ m := by omega
  have hm8 : (m : Int) ≥ 8 := by omega
  have edL : Int.tdiv (m : Int) 4 = (L : Int) := by rw [Int.tdiv_eq_ediv_of_nonneg (by omega)]; omega
  have edL2 : (m : Int) / 4 = (L : Int) := by omega
  have v1 : IntKind.i64.wrap ((L : Int) * 1) = (L : Int) := by rw [IntKind.wrap_i64]; omega
  have v2 : IntKind.i64.wrap ((L : Int) * 2) = (L : Int) * 2 := by rw [IntKind.wrap_i64]; omega
  have v3 : IntKind.i64.wrap ((L : Int) * 3) = (L : Int) * 3 := by rw [IntKind.wrap_i64]; omega
  obtain ⟨i, hi⟩ : ∃ i : Nat, i = a + L := ⟨_, rfl⟩
  obtain ⟨j, hj⟩ : ∃ j : Nat, j = a + L * 2 := ⟨_, rfl⟩
  obtain ⟨k, hk⟩ : ∃ k : Nat, k = a + L * 3 := ⟨_, rfl⟩
  have u1 : IntKind.i64.wrap ((a : Int) + (L : Int)) = (i : Int) := by rw [IntKind.wrap_i64]; omega
  have u2 : IntKind.i64.wrap ((a : Int) + (L : Int) * 2) = (j : Int) := by rw [IntKind.wrap_i64]; omega
  have u3 : IntKind.i64.wrap ((a : Int) + (L : Int) * 3) = (k : Int) := by rw [IntKind.wrap_i64]; omega
  have t1 : (a : Int) + (L : Int) = (i : Int) := by omega
  have t2 : (a : Int) + (L : Int) * 2 = (j : Int) := by omega
  have t3 : (a : Int) + (L : Int) * 3 = (k : Int) := by omega
  have HD := hide hD
  have hgs : g < w.heap.size := own_lt hD.own rfl
  have HM := hide (And.intro hm (And.intro hi (And.intro hj hk)))
  clear hD hm hi hj hk
  by_cases h50 : 50 ≤ m
  · have h50I : (m : Int) ≥ 50 := by omega
    go_enter Tryz.func101, Tryz.ntmps101
    obtain ⟨hm, hi, hj, hk⟩ := HM.out
    have M1 := medAdj137 _ B g n c l _ 0 i (Dx.new HD.out) (by omega) (by omega) hn (by omega)
    have bi : a + 1 ≤ i ∧ i + 2 ≤ b := by omega
    have bj : a + 1 ≤ j ∧ j + 2 ≤ b := by omega
    have bk : a + 1 ≤ k ∧ k + 2 ≤ b := by omega
    clear hm hi hj hk HM
    go_wp2_with fail
    refine M1.mono ?_; rintro e w1 ⟨x1, s1, rfl, p1, p2, hs1, hD1, k1⟩
    have M2 := medAdj137 _ B g n c l _ s1 j hD1 (by omega) (by omega) hn (by omega)
    clear hD1
    go_wp2_with fail
    refine M2.mono ?_; rintro e w2 ⟨x2, s2, rfl, p3, p4, hs2, hD2, k2⟩
    have M3 := medAdj137 _ B g n c l _ s2 k hD2 (by omega) (by omega) hn (by omega)
    clear hD2
    go_wp2_with fail
    refine M3.mono ?_; rintro e w3 ⟨x3, s3, rfl, p5, p6, hs3, hD3, k3⟩
    have M4 := median138 _ B g n c l _ s3 x1 x2 x3 hD3 (by omega) (by omega) (by omega) hn (by omega)
    clear hD3
    go_wp2_with fail
    refine M4.mono ?_; rintro e w4 ⟨x4, s4, rfl, p7, hs4, hD4, k4⟩
    have kk := ((k1.trans k2 (fun _ _ e => e)).trans k3 (fun _ _ e => e)).trans k4 (fun _ _ e => e)
    clear k1 k2 k3 k4
    obtain ⟨sb, esb⟩ : ∃ sb, w.heap.size = sb := ⟨_, rfl⟩
    rw [esb] at hD4 kk ⊢
    have hc := hD4.cell
    have hf := hD4.fz
    have HX := hide (And.intro hD4.dr kk)
    have hs12 : s4 ≤ 12 := by omega
    clear hD4 kk M1 M2 M3 M4
    by_cases z0 : s4 = 0
    · subst z0
      go_wp2
      go_ret2
      subst esb
      exact ⟨x4, 1, rfl, by omega, by omega, by omega, HX.out.1, HX.out.2.box⟩
    · have z0I : ¬ (s4 : Int) = 0 := by omega
      by_cases z1 : s4 = 12
      · subst z1
        go_wp2
        go_ret2
        subst esb
        exact ⟨x4, 2, rfl, by omega, by omega, by omega, HX.out.1, HX.out.2.box⟩
      · have z1I : ¬ (s4 : Int) = 12 := by omega
        go_wp2
        go_ret2
        subst esb
        exact ⟨x4, 0, rfl, by omega, by omega, by omega, HX.out.1, HX.out.2.box⟩
  · have h50I : ¬ (m : Int) ≥ 50 := by omega
    go_enter Tryz.func101, Tryz.ntmps101
    obtain ⟨hm, hi, hj, hk⟩ := HM.out
    have M4 := median138 _ B g n c l _ 0 i j k (Dx.new HD.out) (by omega) (by omega) (by omega) hn (by omega)
    have bi : a + 1 ≤ i ∧ i + 2 ≤ b := by omega
    have bj : a + 1 ≤ j ∧ j + 2 ≤ b := by omega
    have bk : a + 1 ≤ k ∧ k + 2 ≤ b := by omega
    clear hm hi hj hk HM
    go_wp2_with fail
    refine M4.mono ?_; rintro e w4 ⟨x4, s4, rfl, p7, hs4, hD4, kk⟩
    obtain ⟨sb, esb⟩ : ∃ sb, w.heap.size = sb := ⟨_, rfl⟩
    rw [esb] at hD4 kk ⊢
    have hc := hD4.cell
    have hf := hD4.fz
    have HX := hide (And.intro hD4.dr kk)
    have hs12 : s4 ≤ 12 := by omega
    clear hD4 kk M4
    by_cases z0 : s4 = 0
    · subst z0
      go_wp2
      go_ret2
      subst esb
      exact ⟨x4, 1, rfl, by omega, by omega, by omega, HX.out.1, HX.out.2.box⟩
    · have z0I : ¬ (s4 : Int) = 0 := by omega
      by_cases z1 : s4 = 12
      · subst z1
        go_wp2
        go_ret2
        subst esb
        exact ⟨x4, 2, rfl, by omega, by omega, by omega, HX.out.1, HX.out.2.box⟩
      · have z1I : ¬ (s4 : Int) = 12 := by omega
        go_wp2
        go_ret2
        subst esb
        exact ⟨x4, 0, rfl, by omega, by omega, by omega, HX.out.1, HX.out.2.box⟩
end Go.Proofs.YtbifmcadllilhaaGreat.Rg
namespace Go.Proofs.YtbifmcadllilhaaGreat.Rg
open Go.RowKit Go.Shelf Go.Sort
set_option linter.unusedVariables false
theorem npow132 (n : Nat) (hn : 0 < n) (hn2 : n ≤ 1000000) : ∃ M : Nat, 0 < M ∧ M ≤ 2 * n ∧ ∀ w, Calls Tryz.prog 118 #[.int .i64 (n : Int)] w fun e w' => e = .returned (.int .u64 (M : Int)) ∧ w' = w := by
  refine ⟨1 <<< bitsLen n, ?_, ?_, fun w => AnyF.nextPowerOfTwo (ρ := Tryz.sortI_ren) { Tryz.sortI with } n (by omega) w⟩
  · rw [Nat.one_shiftLeft]; exact Nat.two_pow_pos _
  · rw [Nat.one_shiftLeft]; exact two_pow_bitsLen_le hn
theorem next133 (w : World) (rb X : Nat) (hX : X < 18446744073709551616) (hc : w.cell? ⟨rb, 0, none⟩ = some (.int .u64 (X : Int))) (hf : w.frozen? ⟨rb, 0, none⟩ = false) :
    ∃ Y : Nat, Y < 18446744073709551616 ∧ Calls Tryz.prog 119 #[.pointer (some ⟨rb, 0, none⟩)] w fun e w' => e = .returned (.int .u64 (Y : Int)) ∧ w' = (w.setCell ⟨rb, 0, none⟩ (.int .u64 (Y : Int))).drewN 3 :=
  ⟨xorNextN X, xorNextN_lt X hX, AnyF.xorshift_Next (ρ := Tryz.sortI_ren) { Tryz.sortI with } rb 0 X hX w hc hf⟩
/-- the row and the box that draws -/
structure Dy (w : World) (B g n c : Nat) (l : List Int) (rb X : Nat) : Prop where
  dr : Dr w B g n c l
  ne : g ≠ rb
  lt : X < 18446744073709551616
  cell : w.cell? ⟨rb, 0, none⟩ = some (.int .u64 (X : Int))
  fz : w.frozen? ⟨rb, 0, none⟩ = false
theorem Dy.next {w : World} {B g n c : Nat} {l : List Int} {rb X Y : Nat} (h : Dy w B g n c l rb X) (hY : Y < 18446744073709551616) : Dy ((w.setCell ⟨rb, 0, none⟩ (.int .u64 (Y : Int))).drewN 3) B g n c l rb Y :=
  ⟨(h.dr.keep (Kp.setCell w ⟨rb, 0, none⟩ _) h.ne).dn 3, h.ne, hY, by rw [World.cell?_drewN]; exact World.cell?_setCell_same _ _ _ h.cell, by rw [World.frozen?_drewN, World.frozen?_setCell]; exact h.fz⟩
theorem Dy.row {w w' : World} {B g n c : Nat} {l l' : List Int} {rb X : Nat} (h : Dy w B g n c l rb X) (hr : rb < w.heap.size) (hD : Dr w' B g n c l') (k : Kp (fun k => k = g) w w') : Dy w' B g n c l' rb X := by
  have e := k.block rb hr (fun e => h.ne e.symm)
  refine ⟨hD, h.ne, h.lt, ?_, ?_⟩
  · have := h.cell
    unfold World.cell? at this ⊢
    rw [e]; exact this
  · have := h.fz
    unfold World.frozen? at this ⊢
    rw [e]; exact this
theorem Dy.new {w : World} {B g n c : Nat} {l : List Int} (h : Dr w B g n c l) {X : Nat} (hX : X < 18446744073709551616) (t : Nat) : Dy (w.alloc (.cells #[.int .u64 (X : Int)] t)) B g n c l w.heap.size X :=
  ⟨h.nu (Kp.alloc _ _ _), by have := own_lt h.own (g := g) rfl; omega, hX, by simp [go_sem], by simp [go_sem]⟩
set_option maxRecDepth 100000 in
set_option maxHeartbeats 2000000 in
theorem break123 (w : World) (B g n c : Nat) (l : List Int) (a b : Nat) (hD : Dr w B g n c l) (hab : a + 13 ≤ b) (hb : b ≤ n) (hn : n ≤ 1000000) :
    Calls Tryz.prog 100 #[.slice (some ⟨g, 0, none⟩) n c, .int .i64 (a : Int), .int .i64 (b : Int)] w fun e w' => e = .returned (.tuple #[]) ∧ ∃ l', Dr w' B g n c l' ∧ Pm a b l l' ∧ Kp (fun k => k = g) w w' := by
  have mixed : Tryz.prog.follows .mixedOrders = true := by kernel_rfl
  obtain ⟨m, hm⟩ : ∃ m : Nat, a + m = b := ⟨b - a, by omega⟩
  have ebI : (b : Int) - (a : Int) = (m : Int) := by omega
  have ebW : IntKind.i64.wrap ((b : Int) - (a : Int)) = (m : Int) := by rw [IntKind.wrap_i64]; omega
  have hm8 : (m : Int) ≥ 8 := by omega
  have um : IntKind.u64.wrap (m : Int) = (m : Int) := by rw [IntKind.wrap_u64]; omega
  obtain ⟨L, hL⟩ : ∃ L : Nat, m / 4 = L := ⟨_, rfl⟩
  have edL : Int.tdiv (m : Int) 4 = (L : Int) := by rw [Int.tdiv_eq_ediv_of_nonneg (by omega)]; omega
  have edL2 : (m : Int) / 4 = (L : Int) := by omega
  have v2 : IntKind.i64.wrap ((L : Int) * 2) = (L : Int) * 2 := by rw [IntKind.wrap_i64]; omega
  obtain ⟨p2, hp2⟩ : ∃ p2 : Nat, p2 = a + L * 2 := ⟨_, rfl⟩
  obtain ⟨p, hp⟩ : ∃ p : Nat, p + 1 = p2 := ⟨p2 - 1, by omega⟩
  have u2 : IntKind.i64.wrap ((a : Int) + (L : Int) * 2) = (p2 : Int) := by rw [IntKind.wrap_i64]; omega
  have t2 : (a : Int) + (L : Int) * 2 = (p2 : Int) := by omega
  have u3 : IntKind.i64.wrap ((p2 : Int) - 1) = (p : Int) := by rw [IntKind.wrap_i64]; omega
  have t3 : (p2 : Int) - 1 = (p : Int) := by omega
  have u4 : IntKind.i64.wrap ((p2 : Int) + 1) = (p2 : Int) + 1 := by rw [IntKind.wrap_i64]; omega
  obtain ⟨M, hM0, hM2, NP⟩ := npow132 m (by omega) (by omega)
  have hpa : a ≤ p ∧ p + 3 ≤ b := by omega
  have i1 : (0 : Int) ≤ (L : Int) := by omega
  have i2 : (L : Int) ≤ 1000000 := by omega
  have i3 : (0 : Int) ≤ (a : Int) := by omega
  have i4 : (a : Int) ≤ 1000000 := by omega
  have i5 : (0 : Int) ≤ (p2 : Int) := by omega
  have i6 : (p2 : Int) ≤ 1000000 := by omega
  have HM := hide (And.intro hm (And.intro hp2 hp))
  have HD := hide hD
  have hgs : g < w.heap.size := own_lt hD.own rfl
  have HY := hide (Dy.new hD (X := m) (by omega) 174)
  clear hD hm hp2 hp
  go_enter Tryz.func100, Tryz.ntmps100
  go_wp2_with (first | (go_at_call 118; refine (NP _).mono ?_; rintro e w' ⟨rfl, rfl⟩))
  go_loopw [9] (fun iv wr => ∃ q : Nat, iv = .int .i64 (q : Int) ∧ p ≤ q ∧ q ≤ p + 3 ∧ w.heap.size < wr.heap.size ∧ Hid (∃ l' X, Dy wr B g n c l' w.heap.size X ∧ Pm a b l l' ∧ Kp (fun k => k = g) w wr)) (fun iv _ => p + 3 - (intOf iv).toNat)
  case atStart => exact ⟨p, by first | rfl | go_num, by omega, by omega, by simp, hide ⟨l, m, HY.out, Pm.refl _ _ _, Kp.alloc _ _ _⟩⟩
  case round =>
    obtain ⟨q, rfl, hpq, hq3, hsz, hI⟩ := hrel
    obtain ⟨l', X, hY, h2, h4⟩ := hI.out
    have hl' := hY.dr.len
    have hq0 : (0 : Int) ≤ (q : Int) := by omega
    by_cases hlt : q < p + 3
    · have hltI : (q : Int) ≤ (p2 : Int) + 1 := by have := HM.out.2.2; omega
      obtain ⟨Y, hYl, NX⟩ := next133 wr w.heap.size X hY.lt hY.cell hY.fz
      obtain ⟨O, hO⟩ : ∃ O : Nat, O = Y &&& (M - 1) := ⟨_, rfl⟩
      have lO : O ≤ M - 1 := by rw [hO]; exact Nat.and_le_right
      have eAnd : bits .and .u64 (Y : Int) ((M : Int) - 1) = (O : Int) := by
        rw [show ((M : Int) - 1) = ((M - 1 : Nat) : Int) by omega, bits_and_u64_nat _ _ hYl (by omega), hO]
      have eM1 : IntKind.u64.wrap ((M : Int) - 1) = (M : Int) - 1 := by rw [IntKind.wrap_u64]; omega
      have eO : IntKind.i64.wrap (O : Int) = (O : Int) := by rw [IntKind.wrap_i64]; omega
      have eY : IntKind.u64.wrap (Y : Int) = (Y : Int) := by rw [IntKind.wrap_u64]; omega
      have hN := hY.next hYl
      have kN : Kp (fun k => k = g) w ((wr.setCell ⟨w.heap.size, 0, none⟩ (.int .u64 (Y : Int))).drewN 3) := (h4.andSet _ _ (.inl (Nat.le_refl _))).andNu (kp_dn _ 3)
      have zN : w.heap.size < ((wr.setCell ⟨w.heap.size, 0, none⟩ (.int .u64 (Y : Int))).drewN 3).heap.size := by simpa [go_sem] using hsz
      obtain ⟨W, hW⟩ : ∃ W, (wr.setCell ⟨w.heap.size, 0, none⟩ (.int .u64 (Y : Int))).drewN 3 = W := ⟨_, rfl⟩
      rw [hW] at hN kN zN NX
      have HN := hide (And.intro hN (And.intro kN h2))
      clear hY h2 h4 hI hO hN kN hW
      have hm := HM.out.1
      by_cases hOm : m ≤ O
      · have hOI : (O : Int) ≥ (m : Int) := by omega
        obtain ⟨r, hr⟩ : ∃ r : Nat, r + m = O := ⟨O - m, by omega⟩
        have e1 : (O : Int) - (m : Int) = (r : Int) := by omega
        have e2 : IntKind.i64.wrap ((O : Int) - (m : Int)) = (r : Int) := by rw [IntKind.wrap_i64]; omega
        have hrm : r < m := by omega
        clear hr
        have r0 : (0 : Int) ≤ (a : Int) + (r : Int) := by omega
        have r1 : (a : Int) + (r : Int) < (n : Int) := by omega
        have r2 : ((a : Int) + (r : Int)).toNat = a + r := by omega
        have r3 : IntKind.i64.wrap ((a : Int) + (r : Int)) = (a : Int) + (r : Int) := by rw [IntKind.wrap_i64]; omega
        have q1 : (q : Int) < (n : Int) := by omega
        have q2 : (q : Int).toNat = q := by omega
        have HR := hide (And.intro hm (And.intro hpq (And.intro hq3 (And.intro hpa (And.intro hlt (And.intro hab (And.intro hb hrm)))))))
        clear hm hpq hq3 hpa hlt hab hb lO hM0 hM2 hYl hrm hOm
        go_wp2_with fail
        refine NX.mono ?_; rintro e w' ⟨rfl, hw'⟩
        obtain rfl : W = w' := hw'.symm
        clear NX
        obtain ⟨hm, hpq, hq3, hpa, hlt, hab, hb, hrm⟩ := HR.out
        obtain ⟨hN, kN, h2⟩ := HN.out
        obtain ⟨y1, f1, y2, f2, z1, g1, hsw⟩ := hN.dr.swf (i := q) (j := a + r) (by omega) (by omega)
        have H4 := hide (And.intro hsw (And.intro hN (And.intro kN h2)))
        clear hN kN h2 hsw hm hpq hq3 hpa hlt hab hb hrm
        go_wp2_with fail
        go_region
        go_wp2
        obtain ⟨hsw, hN, kN, h2⟩ := H4.out
        obtain ⟨hm, hpq, hq3, hpa, hlt, hab, hb, hrm⟩ := HR.out
        have kS : Kp (fun k => k = g) W ((W.setCell ⟨g, q, none⟩ (.int .u64 (gt l' (a + r)))).setCell ⟨g, a + r, none⟩ (.int .u64 (gt l' q))).drew := (((Kp.refl (fun k => k = g) W).andSet ⟨g, q, none⟩ _ (.inr rfl)).andSet ⟨g, a + r, none⟩ _ (.inr rfl)).drew
        exact ⟨⟨q + 1, by go_num, by omega, by omega, by have := kS.size; omega, hide ⟨sw l' q (a + r), Y, hN.row (by omega) hsw.drew kS, h2.trans (Pm.sw l' (by omega) (by omega) (by omega) (by omega) (by omega) (by omega)), kN.trans kS (fun _ _ e => e)⟩⟩, by simp [intOf]; omega⟩
      · have hOI : ¬ (O : Int) ≥ (m : Int) := by omega
        obtain ⟨r, hr⟩ : ∃ r : Nat, r = O := ⟨_, rfl⟩
        subst hr
        have hrm : r < m := by omega
        have r0 : (0 : Int) ≤ (a : Int) + (r : Int) := by omega
        have r1 : (a : Int) + (r : Int) < (n : Int) := by omega
        have r2 : ((a : Int) + (r : Int)).toNat = a + r := by omega
        have r3 : IntKind.i64.wrap ((a : Int) + (r : Int)) = (a : Int) + (r : Int) := by rw [IntKind.wrap_i64]; omega
        have q1 : (q : Int) < (n : Int) := by omega
        have q2 : (q : Int).toNat = q := by omega
        have HR := hide (And.intro hm (And.intro hpq (And.intro hq3 (And.intro hpa (And.intro hlt (And.intro hab (And.intro hb hrm)))))))
        clear hm hpq hq3 hpa hlt hab hb lO hM0 hM2 hYl hOm hrm
        go_wp2_with fail
        refine NX.mono ?_; rintro e w' ⟨rfl, hw'⟩
        obtain rfl : W = w' := hw'.symm
        clear NX
        obtain ⟨hm, hpq, hq3, hpa, hlt, hab, hb, hrm⟩ := HR.out
        obtain ⟨hN, kN, h2⟩ := HN.out
        obtain ⟨y1, f1, y2, f2, z1, g1, hsw⟩ := hN.dr.swf (i := q) (j := a + r) (by omega) (by omega)
        have H4 := hide (And.intro hsw (And.intro hN (And.intro kN h2)))
        clear hN kN h2 hsw hm hpq hq3 hpa hlt hab hb hrm
        go_wp2_with fail
        go_region
        go_wp2
        obtain ⟨hsw, hN, kN, h2⟩ := H4.out
        obtain ⟨hm, hpq, hq3, hpa, hlt, hab, hb, hrm⟩ := HR.out
        have kS : Kp (fun k => k = g) W ((W.setCell ⟨g, q, none⟩ (.int .u64 (gt l' (a + r)))).setCell ⟨g, a + r, none⟩ (.int .u64 (gt l' q))).drew := (((Kp.refl (fun k => k = g) W).andSet ⟨g, q, none⟩ _ (.inr rfl)).andSet ⟨g, a + r, none⟩ _ (.inr rfl)).drew
        exact ⟨⟨q + 1, by go_num, by omega, by omega, by have := kS.size; omega, hide ⟨sw l' q (a + r), Y, hN.row (by omega) hsw.drew kS, h2.trans (Pm.sw l' (by omega) (by omega) (by omega) (by omega) (by omega) (by omega)), kN.trans kS (fun _ _ e => e)⟩⟩, by simp [intOf]; omega⟩
    · have hge : ¬ (q : Int) ≤ (p2 : Int) + 1 := by have := HM.out.2.2; omega
      have HJ := hide (And.intro hY (And.intro h2 h4))
      clear hY h2 h4 hI
      go_wp2
      go_end0
      obtain ⟨hY, h2, h4⟩ := HJ.out
      exact ⟨rfl, l', hY.dr, h2, h4⟩
end Go.Proofs.YtbifmcadllilhaaGreat.Rg
