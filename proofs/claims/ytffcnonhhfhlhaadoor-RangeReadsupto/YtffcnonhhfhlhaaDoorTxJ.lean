import Derived.Test.YtffcnonhhfhlhaaDoorRrF
import Derived.Test.YtffcnonhhfhlhaaDoorTxH
import Derived.Test.YtffcnonhhfhlhaaDoorCards
import Derived.Test.YtffcnonhhfhlhaaDoorTie
import Derived.ProofKit
import Derived.OpenShut
import Derived.Deep.DeepHandedRow
import Derived.Deep.DeepWitnessRowRef
import Derived.Deep.Fields
import Derived.Stop.LaidErr
import Derived.Lib.LaidTab
import Derived.Below
namespace Go.Proofs.YtffcnonhhfhlhaaDoor.Ws
open Go.RowKit Go.Shelf Go.Sort
open Go.Proofs.YtffcnonhhfhlhaaDoor.Rg (Kp Nu Sg cells lays Frs Lrs PowB)
set_option linter.unusedVariables false
set_option maxRecDepth 100000 in
set_option maxHeartbeats 1000000 in
theorem refRead_any (l : List UInt8) (hl : l.length ≤ 1048576) (lim : Int) (w : World) :
    Calls Tryd.prog 33 #[str l, .int .i64 lim] w fun e w' => ∃ L v at_ c, e = .returned (.tuple #[.agg #[.int .i64 L, v], .int .i64 at_, .int .i64 c]) ∧ RfR w w' lim l L v at_ c ∧ (∃ ad n cp, v = .slice ad n cp) ∧ Kp Nu w w' := by
  by_cases h : 1 ≤ lim ∧ lim ≤ 8192
  · exact refRead33 l hl lim w h
  · have K0 := Kp.alloc w (.cells #[.int .i64 0, .slice none 0 0] 29) Nu
    have HN := hide h
    unfold str
    by_cases h1 : lim < 1
    · clear h hl
      go_enter Tryd.func33, Tryd.ntmps33
      go_wp2
      exact bodyPost_ret (v := .tuple #[.agg #[.int .i64 0, .slice none 0 0], .int .i64 0, .int .i64 63]) (by simp [results, Tryd.results33, go_sem]) rfl ⟨0, _, _, _, rfl, .inl ⟨HN.out, rfl, rfl⟩, ⟨_, _, _, rfl⟩, K0⟩
    · have h2 : lim > 8192 := by omega
      clear h hl
      go_enter Tryd.func33, Tryd.ntmps33
      go_wp2
      exact bodyPost_ret (v := .tuple #[.agg #[.int .i64 0, .slice none 0 0], .int .i64 0, .int .i64 63]) (by simp [results, Tryd.results33, go_sem]) rfl ⟨0, _, _, _, rfl, .inl ⟨HN.out, rfl, rfl⟩, ⟨_, _, _, rfl⟩, K0⟩
set_option maxRecDepth 100000 in
set_option maxHeartbeats 2000000 in
theorem reads_walk (l : List UInt8) (hl : l.length ≤ 1048576) (lim : Int) (w : World) (hp : PowB w.heap.size w) :
    Calls Tryd.prog 7 #[str l, .int .i64 lim] w fun e w' => e = .returned (.bool true) ∧ Kp Nu w w' := by
  have mixed : Tryd.prog.follows .mixedOrders = true := by kernel_rfl
  have RD := read_any l hl lim w
  have NU := fun x W => Rg.num_any x W
  have HP := hide (And.intro hp hl)
  unfold str at RD ⊢
  clear hp hl
  go_enter Tryd.func7, Tryd.ntmps7
  go_wp2_with fail
  refine RD.mono ?_; rintro e w1 ⟨p1, a1, c1, rfl, hR, k1⟩
  have RF := refRead_any l HP.out.2 lim w1
  unfold str at RF
  have HR := hide (And.intro hR k1)
  clear RD hR k1
  go_wp2_with fail
  refine RF.mono ?_; rintro e w2 ⟨L, v, a2, c2, rfl, hF, ⟨adv, nv, cpv, ev⟩, k2⟩
  subst ev
  obtain ⟨rfl, rfl, hcase⟩ := reads_same HR.out.1 hF
  have ea : (a1 != a1) = false := by simp
  have ec : (c1 != c1) = false := by simp
  have K2 := hide (HR.out.2.andNu k2)
  have hF2 := hide hF
  rcases hcase with ⟨hc, rfl⟩ | ⟨rfl, b, B, u, M, rfl, t, rfl, ho⟩
  · have e1 : (c1 != 0) = true := by simpa using hc
    have kA := Kp.alloc w2 (.cells #[.int .i64 L, .slice adv nv cpv] 29) Nu
    have HK := hide (K2.out.andNu kA)
    clear RF hF k2 hc kA
    go_wp2_with (first | (go_at_call 29; refine (NU _ _).mono ?_; rintro e w' ⟨rfl, hw'⟩; obtain rfl := hw'.symm))
    go_ret
    exact ⟨rfl, HK.out⟩
  · have kA := Kp.alloc w2 (.cells #[.int .i64 L, .slice adv nv cpv] 29) Nu
    have xA := heap_alloc_new w2 (.cells #[.int .i64 L, .slice adv nv cpv] 29)
    obtain ⟨w3, ew3⟩ : ∃ w3, w2.alloc (.cells #[.int .i64 L, .slice adv nv cpv] 29) = w3 := ⟨_, rfl⟩
    rw [ew3] at kA xA
    have t3 := (t.nu k2).nu kA
    have hne := t.tab.ne
    have o3 := Rg.own_keep ho (fun g e => kA.block g (Rg.own_lt ho e) (fun x => x))
    have ST := Rg.stands_any t3 (HP.out.1.nu (K2.out.andNu kA)) (.slice adv nv cpv) (Rg.rs_of_own o3 hne)
    obtain ⟨d0, d1⟩ := Rg.cell2' xA
    have e1 : ((0 : Int) != 0) = false := rfl
    have HK := hide (K2.out.andNu kA)
    clear RF hF k2 kA t t3 ho o3 xA hne
    go_wp2_with (first | (go_at_call 29; refine (NU _ _).mono ?_; rintro e w' ⟨rfl, hw'⟩; obtain rfl := hw'.symm))
    refine ST.mono ?_; rintro e w4 ⟨rfl, k4⟩
    have HK4 := hide (HK.out.andNu k4)
    clear ST k4
    go_wp2
    go_ret
    exact ⟨rfl, HK4.out⟩
end Go.Proofs.YtffcnonhhfhlhaaDoor.Ws
namespace Go.Proofs.YtffcnonhhfhlhaaDoor.Rg
open Go.RowKit Go.Shelf Go.Sort
open Go.Proofs.YtffcnonhhfhlhaaDoor.It
set_option linter.unusedVariables false

/-- what the copy is when all is copied -/
structure Gv (w wr : World) (u : Value) (M : List Sg) : Prop where
  own : wr.ownsRow w.heap.size 26 3 u M.length (cells M)
  kp : Kp Nu w wr

set_option maxRecDepth 100000 in
set_option maxHeartbeats 4000000 in
theorem loads_walk (w : World) (u : Value) (M : List Sg) (hM : Sgs w u M) (hlen : (M.length : Int) ≤ 5864062014634) (lim : Int) (hp : PowB w.heap.size w) :
    Calls Tryd.prog 3 #[u, .int .i64 lim] w fun e w' => e = .returned (.bool true) ∧ Kp Nu w w' := by
  have mixed : Tryd.prog.follows .mixedOrders = true := by kernel_rfl
  obtain ⟨i0, hi, hz0, hz1, hz2⟩ := info_parts info40
  obtain ⟨ad, cap, hu⟩ := hM.slice
  have HSB := hide hM.sgb
  obtain ⟨N, hN⟩ : ∃ N, M.length = N := ⟨_, rfl⟩
  have HM := hide hM
  have HN := hide hN
  rw [hN] at hu hlen
  subst hu
  clear hM hN
  go_enter Tryd.func3, Tryd.ntmps3
  go_wp2_with fail
  go_loopw [5, 6] (fun l i wr => ∃ (k : Nat) (adl : Option Addr) (cpl : Nat), k ≤ N ∧ i = .int .i64 (k : Int) ∧ l = .slice adl k cpl ∧ Hid (wr.ownsRow w.heap.size 26 3 (.slice adl k cpl) k (cells (M.take k)) ∧ Kp Nu w wr)) (fun _ i _ => N - (intOf i).toNat)
  case atStart => exact ⟨0, none, 0, by omega, rfl, rfl, ⟨⟨rfl, .inl ⟨rfl, rfl⟩⟩, Kp.refl _ _⟩⟩
  case round =>
    obtain ⟨k, adl, cpl, hk, rfl, rfl, hI⟩ := hrel
    by_cases hlt : k < N
    · have hkM : k < M.length := by rw [HN.out]; exact hlt
      obtain ⟨s, hs⟩ : ∃ s, M[k]? = some s := ⟨_, List.getElem?_eq_getElem hkM⟩
      have hcell : ∃ bs off cp, (.slice ad N cap : Value) = .slice (some ⟨bs, off, none⟩) N cp ∧ SgAt w bs (off + k * 3) s := by
        rcases HM.out with ⟨_, h0⟩ | ⟨bs, off, cp, h0, h3⟩
        · rw [h0] at hs; simp at hs
        · rw [HN.out] at h0
          exact ⟨bs, off, cp, h0, h3 k s hs⟩
      obtain ⟨bs, off, cp, hq, hsg⟩ := hcell
      simp only [Value.slice.injEq] at hq
      obtain ⟨rfl, hq1⟩ := hq
      clear hq1
      obtain ⟨hown, hkp⟩ := hI.out
      obtain ⟨c0, c1, c2, F1⟩ := hsg
      replace c0 := cell_nu c0 hkp
      replace c1 := cell_nu c1 hkp
      replace c2 := cell_nu c2 hkp
      have hltI : (k : Int) < (N : Int) := by omega
      have hk0 : (0 : Int) ≤ (k : Int) := by omega
      have hkN : (k : Int) ≤ 5864062014634 := by omega
      have hsz := hkp.size
      have HE : Hid (cells (M.take (k + 1)) = cells (M.take k) ++ [.int .u64 s.lo, .int .u64 s.hi, .int .u8 s.h]) := by
        show cells (M.take (k + 1)) = _
        rw [List.take_add_one, hs, Option.toList_some, cells_append]; rfl
      have HO := hide hown
      have HK := hide hkp
      clear hI hown hkp hs hkM F1
      go_wp2_with (at_builtin; refine wpList_append_own _ rfl _ _ 22 rfl w.heap.size 26 i0 (.agg #[.int .u64 0, .int .u64 0, .int .u8 0]) 3 24 Tryd.underlying22 hi hz0 hz1 hz2 rfl (by decide) _ k (cells (M.take k)) rfl (HO.out.alloc _) ⟨wr.heap.size, 0, none⟩ 1 1 [.int .u64 s.lo, .int .u64 s.hi, .int .u8 s.h] rfl rfl (cell_three_new _ _ _ _ _) (by simp [Value.oneCell']) (by unfold maxLen; omega) (by omega) (by simp; omega) ?_; intro v3 w3 hown3 hg3 _)
      obtain ⟨ad3, cp3, hv3⟩ := own_slice hown3
      have K3 : Kp Nu w w3 := (HK.out.andAlloc _).trans (Kp.of_grown hg3) (fun i hi e => by have := (HO.out.lt i e.symm).1; omega)
      subst hv3
      exact ⟨⟨k + 1, ad3, cp3, by omega, by go_num, rfl, ⟨by rw [HE.out]; exact hown3, K3⟩⟩, by simp [intOf]; omega⟩
    · obtain ⟨hown, hkp⟩ := hI.out
      obtain rfl : k = N := by omega
      have hge : ¬ (k : Int) < (k : Int) := by omega
      rw [List.take_of_length_le (by rw [HN.out]; omega)] at hown
      have GV : Gv w wr (.slice adl k cpl) M := ⟨by rw [HN.out]; exact hown, hkp⟩
      have LO := loaded_any wr _ M (sgs_of_own GV.own HSB.out) (by rw [HN.out]; exact hlen) lim
      have HG := hide GV
      clear hI hown hkp GV
      go_wp2_with fail
      refine LO.mono ?_; rintro e w2 ⟨p, L, v, rfl, ⟨av, nv, cv, rfl⟩, hcase, hk2⟩
      have HC := hide hcase
      have HK2 := hide hk2
      have SA := fun W (hW : Kp Nu wr W) => same_rz W _ _ M ((sgs_of_own HG.out.own HSB.out).nu hW).rz ((HM.out.nu HG.out.kp).nu hW).rz (by rw [HN.out]; omega)
      clear LO hcase hk2
      go_wp2_with fail
      obtain ⟨w3, hw3⟩ : ∃ w3, w2.alloc (.cells #[.int .i64 L, .slice av nv cv] 29) = w3 := ⟨_, rfl⟩
      have K3 : Kp Nu w2 w3 := by rw [← hw3]; exact Kp.alloc w2 _ Nu
      have B3 : w3.heap[w2.heap.size]? = some (.cells #[.int .i64 L, .slice av nv cv] 29 (0, 0)) := by rw [← hw3]; exact heap_alloc_new w2 _
      rw [hw3]
      have SA3 := SA w3 (HK2.out.andNu K3)
      have HK3 := hide K3
      have HB3 := hide B3
      clear SA K3 B3 hw3
      refine SA3.mono ?_; rintro e w4 ⟨rfl, hk4⟩
      have HK24 := hide (HK3.out.andNu hk4)
      have HB4 := hide ((hk4.block _ (blk_lt HB3.out) (fun h => h)).trans HB3.out)
      clear SA3 hk4
      rcases HC.out with rfl | ⟨b, vt, Bq, hBq, rfl, hT, rfl, hRo, hRl⟩
      · have HKF := hide ((HG.out.kp.andNu HK2.out).andNu HK24.out)
        go_wp2
        go_ret
        exact ⟨rfl, HKF.out⟩
      · have hne := hT.tab.ne
        have HT := hide hT
        have HRo := hide hRo
        have hKg := HK2.out.andNu HK24.out
        have hrow : ∃ g cp cur, (.slice adl k cpl : Value) = .slice (some ⟨g, 0, none⟩) k cp ∧ w.heap.size ≤ g ∧ g < wr.heap.size ∧ wr.heap[g]? = some (.cells cur 26 (0, 0)) ∧ k * 3 ≤ cur.size := by
          rcases HG.out.own.2 with ⟨_, h0⟩ | ⟨g, cp, cur, e, hbg, hgg, h1, h2, h3, h4⟩
          · rw [List.eq_nil_of_length_eq_zero h0] at hne
            simp [lays] at hne
          · rw [HN.out] at e h1
            exact ⟨g, cp, cur, e, hbg, blk_lt hgg, hgg, by rw [h3]; omega⟩
        obtain ⟨g, cp, cur, hq, hbg, hgl, hgg, hcs⟩ := hrow
        simp only [Value.slice.injEq] at hq
        obtain ⟨rfl, hq1⟩ := hq
        have hg4 := (hKg.block g hgl (fun h => h)).trans hgg
        have HG4 := hide hg4
        have hkI : (k : Int) ≤ 5864062014634 := by omega
        clear hT hRo hne hKg hq1 hgg hg4
        go_wp2_with fail
        go_loopw [10] (fun i wx => ∃ j : Nat, i = .int .i64 (j : Int) ∧ j ≤ k ∧ Hid (Kp (fun x => x = g) w4 wx ∧ ∃ cur, wx.heap[g]? = some (.cells cur 26 (0, 0)) ∧ k * 3 ≤ cur.size)) (fun i _ => k - (intOf i).toNat)
        case atStart => exact ⟨0, rfl, Nat.zero_le _, ⟨Kp.refl _ _, _, HG4.out, hcs⟩⟩
        case round =>
          rename World => wx
          obtain ⟨j, rfl, hj, hI⟩ := hrel
          by_cases hlt2 : j < k
          · obtain ⟨hkx, curx, hbx, hsx⟩ := hI.out
            have hltI : (j : Int) < (k : Int) := by omega
            have hj0 : (0 : Int) ≤ (j : Int) := by omega
            have cx : ∀ o, o < curx.size → ∃ y, wx.cell? ⟨g, o, none⟩ = some y := fun o ho => ⟨curx[o], by simp [World.cell?, hbx, ho]⟩
            obtain ⟨y0, x0⟩ := cx (j * 3) (by omega)
            obtain ⟨y1, x1⟩ := cx (j * 3 + 1) (by omega)
            obtain ⟨y2, x2⟩ := cx (j * 3 + 2) (by omega)
            have f0 := free3 hbx (j * 3)
            have f1 := free3 hbx (j * 3 + 1)
            have f2 := free3 hbx (j * 3 + 2)
            have HKX := hide hkx
            have HBX := hide (And.intro hbx hsx)
            clear hI hkx hbx hsx cx
            go_wp2_with fail
            exact ⟨⟨j + 1, by go_num, by omega, ⟨((HKX.out.andSet _ _ (.inr rfl)).andSet _ _ (.inr rfl)).andSet _ _ (.inr rfl), _, set3 (set3 (set3 HBX.out.1 _ _) _ _) _ _, by simpa using HBX.out.2⟩⟩, by simp [intOf]; omega⟩
          · obtain ⟨hkx, curx, hbx, hsx⟩ := hI.out
            have hge2 : ¬ (j : Int) < (k : Int) := by omega
            have hw42 := HK2.out.size
            have hbox := (hkx.block _ (blk_lt HB4.out) (fun e => by have e2 : w2.heap.size = g := e; omega)).trans HB4.out
            obtain ⟨a0, a1⟩ := cell2' hbox
            have hT4 := HT.out.nu HK24.out
            have hTx : Tb Bq wx b _ vt (lays [] M) := ⟨(hkx.block _ (blk_lt hT4.blk) (fun e => by have e2 : b = g := e; have := hT4.low; omega)).trans hT4.blk, hT4.low, own_keep hT4.own (fun q hq => hkx.block q (own_lt hT4.own hq) (fun e => by have e2 : q = g := e; have := (hT4.own.lt q hq).1; omega)), hT4.tab, hT4.len, hT4.lim1⟩
            have hR4 := own_keep HRo.out (fun q hq => HK24.out.block q (own_lt HRo.out hq) (fun h => h))
            have hRx := own_keep hR4 (fun q hq => hkx.block q (own_lt hR4 hq) (fun e => by have e2 : q = g := e; have := (hR4.lt q hq).1; omega))
            have KW : Kp Nu w wx := ((HG.out.kp.andNu HK2.out).andNu HK24.out).trans hkx (fun i h1 h2 => by have e2 : i = g := h2; omega)
            have ST := stands_any hTx (hp.nu KW) _ (rs_of_own hRx hTx.tab.ne)
            have HKW := hide KW
            clear hI hkx hbx hsx hbox hT4 hTx hR4 hRx KW
            go_wp2_with fail
            refine ST.mono ?_; rintro e w5 ⟨rfl, hk5⟩
            have HK5 := hide hk5
            clear ST hk5
            go_wp2
            go_ret
            exact ⟨rfl, HKW.out.andNu HK5.out⟩
end Go.Proofs.YtffcnonhhfhlhaaDoor.Rg
namespace Go.Proofs.YtffcnonhhfhlhaaDoor.Rg
open Go.ChangeShapes Go.WideShapes Go.ChangeAt Go.RowKit
open Go.Deep
set_option linter.unusedVariables false

theorem laidOut : laidOutB Tryd.prog = true := by kernel_rfl
theorem gPow : Tryd.prog.globalNamed "internal/strconv.uint64pow10" = some 0 := by kernel_rfl
theorem laidPow : (Rows.laid_internal_strconv_uint64pow10 : DataW Unit) = Lib.tabData .u64 Lib.pow10Tab := by kernel_rfl
theorem pow_of {W : World} {rest : List (String × DataW Unit)} (h : laidMet Tryd.prog (("math/bits.deBruijn32tab", Rows.laid_math_bits_deBruijn32tab) :: ("math/bits.deBruijn64tab", Rows.laid_math_bits_deBruijn64tab) :: ("internal/strconv.uint64pow10", Rows.laid_internal_strconv_uint64pow10) :: rest) W) : Lib.TabIs Tryd.prog W "internal/strconv.uint64pow10" .u64 Lib.pow10Tab := by
  have h3 := h.tail.tail
  rw [laidPow] at h3
  exact Lib.tabIs_of_head (g := 0) gPow (t := 175) (e := 23) (n := 20) (by kernel_rfl) Tryd.underlying175 Tryd.underlying23 (by kernel_rfl) (by kernel_rfl) h3
theorem powB_of {W : World} (h : Lib.TabIs Tryd.prog W "internal/strconv.uint64pow10" .u64 Lib.pow10Tab) : PowB W.heap.size W := Lib.tabBelow_of_tabIs h
def bru32 : List Int := [0, 1, 28, 2, 29, 14, 24, 3, 30, 22, 20, 15, 25, 17, 4, 8, 31, 27, 13, 23, 21, 19, 16, 7, 26, 12, 18, 6, 11, 5, 10, 9]
def bru64 : List Int := [0, 1, 56, 2, 57, 49, 28, 3, 61, 58, 42, 50, 38, 29, 17, 4, 62, 47, 59, 36, 45, 43, 51, 22, 53, 39, 33, 30, 24, 18, 12, 5, 63, 55, 48, 27, 60, 41, 37, 16, 46, 35, 44, 21, 52, 32, 23, 11, 54, 26, 40, 15, 34, 20, 31, 10, 25, 14, 19, 9, 13, 8, 7, 6]
def pow10 : List Int := (List.range 20).map fun i => ((10 ^ i : Nat) : Int)
def putL (k : IntKind) (zs : List Int) : Obj → Obj
  | .cells _ t frozen => .cells (zs.map fun z => Value.int k z).toArray t frozen
  | o => o
/-- a world for the witness: the settled one, the variables holding their tables -/
noncomputable def laidWorld (os : Os) : World :=
  { World.holding Tryd.prog os ⟨#[], #[], []⟩ with heap := (((World.holding Tryd.prog os ⟨#[], #[], []⟩).heap.modify 4 (putL .u8 bru32)).modify 5 (putL .u8 bru64)).modify 0 (putL .u64 pow10) }
end Go.Proofs.YtffcnonhhfhlhaaDoor.Rg
