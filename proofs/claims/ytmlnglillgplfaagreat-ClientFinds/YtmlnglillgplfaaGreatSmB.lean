import Derived.Test.YtmlnglillgplfaaGreatSmA
namespace Go.Proofs.YtmlnglillgplfaaGreat.Cl
open Go.RowKit
set_option linter.unusedVariables false
set_option maxRecDepth 100000 in
set_option maxHeartbeats 4000000 in
/-- Same, where there are neither pairs nor sessions -/
theorem same_any (w : World) (k1 seq1 key1 hi1 of1 st1 host1 gr1 bo1 ma1 li1 : Int) (has1 : Bool) (V1 O1 Y1 : List Int) (va1 oa1 ya1 pa1 sa1 : Option Addr) (vc1 oc1 yc1 pc1 sc1 : Nat) (k2 seq2 key2 hi2 of2 st2 host2 gr2 bo2 ma2 li2 : Int) (has2 : Bool) (V2 O2 Y2 : List Int) (va2 oa2 ya2 pa2 sa2 : Option Addr) (vc2 oc2 yc2 pc2 sc2 : Nat) (hv1 : Rd w (.slice va1 V1.length vc1) V1) (ho1 : Rd w (.slice oa1 O1.length oc1) O1) (hy1 : Rd w (.slice ya1 Y1.length yc1) Y1) (bv1 : Byt V1) (bo_1 : Byt O1) (by_1 : Byt Y1) (hv2 : Rd w (.slice va2 V2.length vc2) V2) (ho2 : Rd w (.slice oa2 O2.length oc2) O2) (hy2 : Rd w (.slice ya2 Y2.length yc2) Y2) (bv2 : Byt V2) (bo_2 : Byt O2) (by_2 : Byt Y2) :
    Calls Tryz.prog 29 #[.agg #[.int .u8 k1, .int .u64 seq1, .int .u64 key1, .int .u64 hi1, .slice va1 V1.length vc1, .slice oa1 O1.length oc1, .bool has1, .int .u8 of1, .int .u8 st1, .int .u8 host1, .int .u32 gr1, .int .u32 bo1, .int .u64 ma1, .int .u8 li1, .slice pa1 0 pc1, .slice sa1 0 sc1, .slice ya1 Y1.length yc1], .agg #[.int .u8 k2, .int .u64 seq2, .int .u64 key2, .int .u64 hi2, .slice va2 V2.length vc2, .slice oa2 O2.length oc2, .bool has2, .int .u8 of2, .int .u8 st2, .int .u8 host2, .int .u32 gr2, .int .u32 bo2, .int .u64 ma2, .int .u8 li2, .slice pa2 0 pc2, .slice sa2 0 sc2, .slice ya2 Y2.length yc2]] w fun e w' => e = .returned (.bool (decide (V1 = V2 ∧ O1 = O2 ∧ Y1 = Y2 ∧ k1 = k2 ∧ seq1 = seq2 ∧ key1 = key2 ∧ hi1 = hi2 ∧ has1 = has2 ∧ of1 = of2 ∧ st1 = st2 ∧ host1 = host2 ∧ gr1 = gr2 ∧ bo1 = bo2 ∧ ma1 = ma2 ∧ li1 = li2))) ∧ Kp Nu w w' := by
  have KA := fun x y => (Kp.alloc w (.cells x 36) Nu).andAlloc (.cells y 36)
  have S1 := fun W (k : Kp Nu w W) => sameBytes_any W _ _ V1 V2 (hv1.nu k) (hv2.nu k) bv1 bv2
  have S2 := fun W (k : Kp Nu w W) => sameBytes_any W _ _ O1 O2 (ho1.nu k) (ho2.nu k) bo_1 bo_2
  have S3 := fun W (k : Kp Nu w W) => sameBytes_any W _ _ Y1 Y2 (hy1.nu k) (hy2.nu k) by_1 by_2
  have SP := fun W => samePairs_none W pa1 pa2 pc1 pc2
  have SS := fun W => sameSessions_none W sa1 sa2 sc1 sc2
  clear hv1 hv2 ho1 ho2 hy1 hy2 bv1 bv2 bo_1 bo_2 by_1 by_2
  generalize V1.length = nv1 at *
  generalize V2.length = nv2 at *
  generalize O1.length = no1 at *
  generalize O2.length = no2 at *
  generalize Y1.length = ny1 at *
  generalize Y2.length = ny2 at *
  by_cases hn : V1 = V2
  case neg =>
    have dn : decide (V1 = V2) = false := decide_eq_false hn
    have D : Hid (decide (V1 = V2 ∧ O1 = O2 ∧ Y1 = Y2 ∧ k1 = k2 ∧ seq1 = seq2 ∧ key1 = key2 ∧ hi1 = hi2 ∧ has1 = has2 ∧ of1 = of2 ∧ st1 = st2 ∧ host1 = host2 ∧ gr1 = gr2 ∧ bo1 = bo2 ∧ ma1 = ma2 ∧ li1 = li2) = false) := hide (decide_eq_false (fun hh => hn (by obtain ⟨_, _, _, _, _, _, _, _, _, _, _, _, _, _, _⟩ := hh; assumption)))
    clear hn
    go_enter Tryz.func29, Tryz.ntmps29
    go_wp2_with fail
    refine (S1 _ (KA _ _)).mono ?_; rintro e w' ⟨rfl, rfl⟩
    go_wp2_with fail
    refine (S2 _ (KA _ _)).mono ?_; rintro e w' ⟨rfl, rfl⟩
    go_wp2_with fail
    refine (S3 _ (KA _ _)).mono ?_; rintro e w' ⟨rfl, rfl⟩
    go_wp2_with fail
    refine (SP _).mono ?_; rintro e w' ⟨rfl, rfl⟩
    go_wp2_with fail
    refine (SS _).mono ?_; rintro e w' ⟨rfl, rfl⟩
    clear S1 S2 S3 SP SS
    go_wp2
    go_ret
    rw [D.out]
    exact ⟨rfl, KA _ _⟩
  case pos =>
    subst hn
    have d0 : decide (V1 = V1) = true := decide_eq_true rfl
    by_cases hn : O1 = O2
    case neg =>
      have dn : decide (O1 = O2) = false := decide_eq_false hn
      have D : Hid (decide (V1 = V1 ∧ O1 = O2 ∧ Y1 = Y2 ∧ k1 = k2 ∧ seq1 = seq2 ∧ key1 = key2 ∧ hi1 = hi2 ∧ has1 = has2 ∧ of1 = of2 ∧ st1 = st2 ∧ host1 = host2 ∧ gr1 = gr2 ∧ bo1 = bo2 ∧ ma1 = ma2 ∧ li1 = li2) = false) := hide (decide_eq_false (fun hh => hn (by obtain ⟨_, _, _, _, _, _, _, _, _, _, _, _, _, _, _⟩ := hh; assumption)))
      clear hn
      go_enter Tryz.func29, Tryz.ntmps29
      go_wp2_with fail
      refine (S1 _ (KA _ _)).mono ?_; rintro e w' ⟨rfl, rfl⟩
      go_wp2_with fail
      refine (S2 _ (KA _ _)).mono ?_; rintro e w' ⟨rfl, rfl⟩
      go_wp2_with fail
      refine (S3 _ (KA _ _)).mono ?_; rintro e w' ⟨rfl, rfl⟩
      go_wp2_with fail
      refine (SP _).mono ?_; rintro e w' ⟨rfl, rfl⟩
      go_wp2_with fail
      refine (SS _).mono ?_; rintro e w' ⟨rfl, rfl⟩
      clear S1 S2 S3 SP SS
      go_wp2
      go_ret
      rw [D.out]
      exact ⟨rfl, KA _ _⟩
    case pos =>
      subst hn
      have d1 : decide (O1 = O1) = true := decide_eq_true rfl
      by_cases hn : Y1 = Y2
      case neg =>
        have dn : decide (Y1 = Y2) = false := decide_eq_false hn
        have D : Hid (decide (V1 = V1 ∧ O1 = O1 ∧ Y1 = Y2 ∧ k1 = k2 ∧ seq1 = seq2 ∧ key1 = key2 ∧ hi1 = hi2 ∧ has1 = has2 ∧ of1 = of2 ∧ st1 = st2 ∧ host1 = host2 ∧ gr1 = gr2 ∧ bo1 = bo2 ∧ ma1 = ma2 ∧ li1 = li2) = false) := hide (decide_eq_false (fun hh => hn (by obtain ⟨_, _, _, _, _, _, _, _, _, _, _, _, _, _, _⟩ := hh; assumption)))
        clear hn
        go_enter Tryz.func29, Tryz.ntmps29
        go_wp2_with fail
        refine (S1 _ (KA _ _)).mono ?_; rintro e w' ⟨rfl, rfl⟩
        go_wp2_with fail
        refine (S2 _ (KA _ _)).mono ?_; rintro e w' ⟨rfl, rfl⟩
        go_wp2_with fail
        refine (S3 _ (KA _ _)).mono ?_; rintro e w' ⟨rfl, rfl⟩
        go_wp2_with fail
        refine (SP _).mono ?_; rintro e w' ⟨rfl, rfl⟩
        go_wp2_with fail
        refine (SS _).mono ?_; rintro e w' ⟨rfl, rfl⟩
        clear S1 S2 S3 SP SS
        go_wp2
        go_ret
        rw [D.out]
        exact ⟨rfl, KA _ _⟩
      case pos =>
        subst hn
        have d2 : decide (Y1 = Y1) = true := decide_eq_true rfl
        by_cases hn : k1 = k2
        case neg =>
          have D : Hid (decide (V1 = V1 ∧ O1 = O1 ∧ Y1 = Y1 ∧ k1 = k2 ∧ seq1 = seq2 ∧ key1 = key2 ∧ hi1 = hi2 ∧ has1 = has2 ∧ of1 = of2 ∧ st1 = st2 ∧ host1 = host2 ∧ gr1 = gr2 ∧ bo1 = bo2 ∧ ma1 = ma2 ∧ li1 = li2) = false) := hide (decide_eq_false (fun hh => hn (by obtain ⟨_, _, _, _, _, _, _, _, _, _, _, _, _, _, _⟩ := hh; assumption)))
          go_enter Tryz.func29, Tryz.ntmps29
          go_wp2_with fail
          refine (S1 _ (KA _ _)).mono ?_; rintro e w' ⟨rfl, rfl⟩
          go_wp2_with fail
          refine (S2 _ (KA _ _)).mono ?_; rintro e w' ⟨rfl, rfl⟩
          go_wp2_with fail
          refine (S3 _ (KA _ _)).mono ?_; rintro e w' ⟨rfl, rfl⟩
          go_wp2_with fail
          refine (SP _).mono ?_; rintro e w' ⟨rfl, rfl⟩
          go_wp2_with fail
          refine (SS _).mono ?_; rintro e w' ⟨rfl, rfl⟩
          clear S1 S2 S3 SP SS
          go_wp2
          go_ret
          rw [D.out]
          exact ⟨rfl, KA _ _⟩
        case pos =>
          subst hn
          by_cases hn : seq1 = seq2
          case neg =>
            have D : Hid (decide (V1 = V1 ∧ O1 = O1 ∧ Y1 = Y1 ∧ k1 = k1 ∧ seq1 = seq2 ∧ key1 = key2 ∧ hi1 = hi2 ∧ has1 = has2 ∧ of1 = of2 ∧ st1 = st2 ∧ host1 = host2 ∧ gr1 = gr2 ∧ bo1 = bo2 ∧ ma1 = ma2 ∧ li1 = li2) = false) := hide (decide_eq_false (fun hh => hn (by obtain ⟨_, _, _, _, _, _, _, _, _, _, _, _, _, _, _⟩ := hh; assumption)))
            go_enter Tryz.func29, Tryz.ntmps29
            go_wp2_with fail
            refine (S1 _ (KA _ _)).mono ?_; rintro e w' ⟨rfl, rfl⟩
            go_wp2_with fail
            refine (S2 _ (KA _ _)).mono ?_; rintro e w' ⟨rfl, rfl⟩
            go_wp2_with fail
            refine (S3 _ (KA _ _)).mono ?_; rintro e w' ⟨rfl, rfl⟩
            go_wp2_with fail
            refine (SP _).mono ?_; rintro e w' ⟨rfl, rfl⟩
            go_wp2_with fail
            refine (SS _).mono ?_; rintro e w' ⟨rfl, rfl⟩
            clear S1 S2 S3 SP SS
            go_wp2
            go_ret
            rw [D.out]
            exact ⟨rfl, KA _ _⟩
          case pos =>
            subst hn
            by_cases hn : key1 = key2
            case neg =>
              have D : Hid (decide (V1 = V1 ∧ O1 = O1 ∧ Y1 = Y1 ∧ k1 = k1 ∧ seq1 = seq1 ∧ key1 = key2 ∧ hi1 = hi2 ∧ has1 = has2 ∧ of1 = of2 ∧ st1 = st2 ∧ host1 = host2 ∧ gr1 = gr2 ∧ bo1 = bo2 ∧ ma1 = ma2 ∧ li1 = li2) = false) := hide (decide_eq_false (fun hh => hn (by obtain ⟨_, _, _, _, _, _, _, _, _, _, _, _, _, _, _⟩ := hh; assumption)))
              go_enter Tryz.func29, Tryz.ntmps29
              go_wp2_with fail
              refine (S1 _ (KA _ _)).mono ?_; rintro e w' ⟨rfl, rfl⟩
              go_wp2_with fail
              refine (S2 _ (KA _ _)).mono ?_; rintro e w' ⟨rfl, rfl⟩
              go_wp2_with fail
              refine (S3 _ (KA _ _)).mono ?_; rintro e w' ⟨rfl, rfl⟩
              go_wp2_with fail
              refine (SP _).mono ?_; rintro e w' ⟨rfl, rfl⟩
              go_wp2_with fail
              refine (SS _).mono ?_; rintro e w' ⟨rfl, rfl⟩
              clear S1 S2 S3 SP SS
              go_wp2
              go_ret
              rw [D.out]
              exact ⟨rfl, KA _ _⟩
            case pos =>
              subst hn
              by_cases hn : hi1 = hi2
              case neg =>
                have D : Hid (decide (V1 = V1 ∧ O1 = O1 ∧ Y1 = Y1 ∧ k1 = k1 ∧ seq1 = seq1 ∧ key1 = key1 ∧ hi1 = hi2 ∧ has1 = has2 ∧ of1 = of2 ∧ st1 = st2 ∧ host1 = host2 ∧ gr1 = gr2 ∧ bo1 = bo2 ∧ ma1 = ma2 ∧ li1 = li2) = false) := hide (decide_eq_false (fun hh => hn (by obtain ⟨_, _, _, _, _, _, _, _, _, _, _, _, _, _, _⟩ := hh; assumption)))
                go_enter Tryz.func29, Tryz.ntmps29
                go_wp2_with fail
                refine (S1 _ (KA _ _)).mono ?_; rintro e w' ⟨rfl, rfl⟩
                go_wp2_with fail
                refine (S2 _ (KA _ _)).mono ?_; rintro e w' ⟨rfl, rfl⟩
                go_wp2_with fail
                refine (S3 _ (KA _ _)).mono ?_; rintro e w' ⟨rfl, rfl⟩
                go_wp2_with fail
                refine (SP _).mono ?_; rintro e w' ⟨rfl, rfl⟩
                go_wp2_with fail
                refine (SS _).mono ?_; rintro e w' ⟨rfl, rfl⟩
                clear S1 S2 S3 SP SS
                go_wp2
                go_ret
                rw [D.out]
                exact ⟨rfl, KA _ _⟩
              case pos =>
                subst hn
                by_cases hn : has1 = has2
                case neg =>
                  have D : Hid (decide (V1 = V1 ∧ O1 = O1 ∧ Y1 = Y1 ∧ k1 = k1 ∧ seq1 = seq1 ∧ key1 = key1 ∧ hi1 = hi1 ∧ has1 = has2 ∧ of1 = of2 ∧ st1 = st2 ∧ host1 = host2 ∧ gr1 = gr2 ∧ bo1 = bo2 ∧ ma1 = ma2 ∧ li1 = li2) = false) := hide (decide_eq_false (fun hh => hn (by obtain ⟨_, _, _, _, _, _, _, _, _, _, _, _, _, _, _⟩ := hh; assumption)))
                  have hb : (has1 != has2) = true := by cases has1 <;> cases has2 <;> simp_all
                  go_enter Tryz.func29, Tryz.ntmps29
                  go_wp2_with fail
                  refine (S1 _ (KA _ _)).mono ?_; rintro e w' ⟨rfl, rfl⟩
                  go_wp2_with fail
                  refine (S2 _ (KA _ _)).mono ?_; rintro e w' ⟨rfl, rfl⟩
                  go_wp2_with fail
                  refine (S3 _ (KA _ _)).mono ?_; rintro e w' ⟨rfl, rfl⟩
                  go_wp2_with fail
                  refine (SP _).mono ?_; rintro e w' ⟨rfl, rfl⟩
                  go_wp2_with fail
                  refine (SS _).mono ?_; rintro e w' ⟨rfl, rfl⟩
                  clear S1 S2 S3 SP SS
                  go_wp2
                  go_ret
                  rw [D.out]
                  exact ⟨rfl, KA _ _⟩
                case pos =>
                  subst hn
                  have hbb : (has1 != has1) = false := by cases has1 <;> rfl
                  by_cases hn : of1 = of2
                  case neg =>
                    have D : Hid (decide (V1 = V1 ∧ O1 = O1 ∧ Y1 = Y1 ∧ k1 = k1 ∧ seq1 = seq1 ∧ key1 = key1 ∧ hi1 = hi1 ∧ has1 = has1 ∧ of1 = of2 ∧ st1 = st2 ∧ host1 = host2 ∧ gr1 = gr2 ∧ bo1 = bo2 ∧ ma1 = ma2 ∧ li1 = li2) = false) := hide (decide_eq_false (fun hh => hn (by obtain ⟨_, _, _, _, _, _, _, _, _, _, _, _, _, _, _⟩ := hh; assumption)))
                    go_enter Tryz.func29, Tryz.ntmps29
                    go_wp2_with fail
                    refine (S1 _ (KA _ _)).mono ?_; rintro e w' ⟨rfl, rfl⟩
                    go_wp2_with fail
                    refine (S2 _ (KA _ _)).mono ?_; rintro e w' ⟨rfl, rfl⟩
                    go_wp2_with fail
                    refine (S3 _ (KA _ _)).mono ?_; rintro e w' ⟨rfl, rfl⟩
                    go_wp2_with fail
                    refine (SP _).mono ?_; rintro e w' ⟨rfl, rfl⟩
                    go_wp2_with fail
                    refine (SS _).mono ?_; rintro e w' ⟨rfl, rfl⟩
                    clear S1 S2 S3 SP SS
                    go_wp2
                    go_ret
                    rw [D.out]
                    exact ⟨rfl, KA _ _⟩
                  case pos =>
                    subst hn
                    by_cases hn : st1 = st2
                    case neg =>
                      have D : Hid (decide (V1 = V1 ∧ O1 = O1 ∧ Y1 = Y1 ∧ k1 = k1 ∧ seq1 = seq1 ∧ key1 = key1 ∧ hi1 = hi1 ∧ has1 = has1 ∧ of1 = of1 ∧ st1 = st2 ∧ host1 = host2 ∧ gr1 = gr2 ∧ bo1 = bo2 ∧ ma1 = ma2 ∧ li1 = li2) = false) := hide (decide_eq_false (fun hh => hn (by obtain ⟨_, _, _, _, _, _, _, _, _, _, _, _, _, _, _⟩ := hh; assumption)))
                      go_enter Tryz.func29, Tryz.ntmps29
                      go_wp2_with fail
                      refine (S1 _ (KA _ _)).mono ?_; rintro e w' ⟨rfl, rfl⟩
                      go_wp2_with fail
                      refine (S2 _ (KA _ _)).mono ?_; rintro e w' ⟨rfl, rfl⟩
                      go_wp2_with fail
                      refine (S3 _ (KA _ _)).mono ?_; rintro e w' ⟨rfl, rfl⟩
                      go_wp2_with fail
                      refine (SP _).mono ?_; rintro e w' ⟨rfl, rfl⟩
                      go_wp2_with fail
                      refine (SS _).mono ?_; rintro e w' ⟨rfl, rfl⟩
                      clear S1 S2 S3 SP SS
                      go_wp2
                      go_ret
                      rw [D.out]
                      exact ⟨rfl, KA _ _⟩
                    case pos =>
                      subst hn
                      by_cases hn : host1 = host2
                      case neg =>
                        have D : Hid (decide (V1 = V1 ∧ O1 = O1 ∧ Y1 = Y1 ∧ k1 = k1 ∧ seq1 = seq1 ∧ key1 = key1 ∧ hi1 = hi1 ∧ has1 = has1 ∧ of1 = of1 ∧ st1 = st1 ∧ host1 = host2 ∧ gr1 = gr2 ∧ bo1 = bo2 ∧ ma1 = ma2 ∧ li1 = li2) = false) := hide (decide_eq_false (fun hh => hn (by obtain ⟨_, _, _, _, _, _, _, _, _, _, _, _, _, _, _⟩ := hh; assumption)))
                        go_enter Tryz.func29, Tryz.ntmps29
                        go_wp2_with fail
                        refine (S1 _ (KA _ _)).mono ?_; rintro e w' ⟨rfl, rfl⟩
                        go_wp2_with fail
                        refine (S2 _ (KA _ _)).mono ?_; rintro e w' ⟨rfl, rfl⟩
                        go_wp2_with fail
                        refine (S3 _ (KA _ _)).mono ?_; rintro e w' ⟨rfl, rfl⟩
                        go_wp2_with fail
                        refine (SP _).mono ?_; rintro e w' ⟨rfl, rfl⟩
                        go_wp2_with fail
                        refine (SS _).mono ?_; rintro e w' ⟨rfl, rfl⟩
                        clear S1 S2 S3 SP SS
                        go_wp2
                        go_ret
                        rw [D.out]
                        exact ⟨rfl, KA _ _⟩
                      case pos =>
                        subst hn
                        by_cases hn : gr1 = gr2
                        case neg =>
                          have D : Hid (decide (V1 = V1 ∧ O1 = O1 ∧ Y1 = Y1 ∧ k1 = k1 ∧ seq1 = seq1 ∧ key1 = key1 ∧ hi1 = hi1 ∧ has1 = has1 ∧ of1 = of1 ∧ st1 = st1 ∧ host1 = host1 ∧ gr1 = gr2 ∧ bo1 = bo2 ∧ ma1 = ma2 ∧ li1 = li2) = false) := hide (decide_eq_false (fun hh => hn (by obtain ⟨_, _, _, _, _, _, _, _, _, _, _, _, _, _, _⟩ := hh; assumption)))
                          go_enter Tryz.func29, Tryz.ntmps29
                          go_wp2_with fail
                          refine (S1 _ (KA _ _)).mono ?_; rintro e w' ⟨rfl, rfl⟩
                          go_wp2_with fail
                          refine (S2 _ (KA _ _)).mono ?_; rintro e w' ⟨rfl, rfl⟩
                          go_wp2_with fail
                          refine (S3 _ (KA _ _)).mono ?_; rintro e w' ⟨rfl, rfl⟩
                          go_wp2_with fail
                          refine (SP _).mono ?_; rintro e w' ⟨rfl, rfl⟩
                          go_wp2_with fail
                          refine (SS _).mono ?_; rintro e w' ⟨rfl, rfl⟩
                          clear S1 S2 S3 SP SS
                          go_wp2
                          go_ret
                          rw [D.out]
                          exact ⟨rfl, KA _ _⟩
                        case pos =>
                          subst hn
                          by_cases hn : bo1 = bo2
                          case neg =>
                            have D : Hid (decide (V1 = V1 ∧ O1 = O1 ∧ Y1 = Y1 ∧ k1 = k1 ∧ seq1 = seq1 ∧ key1 = key1 ∧ hi1 = hi1 ∧ has1 = has1 ∧ of1 = of1 ∧ st1 = st1 ∧ host1 = host1 ∧ gr1 = gr1 ∧ bo1 = bo2 ∧ ma1 = ma2 ∧ li1 = li2) = false) := hide (decide_eq_false (fun hh => hn (by obtain ⟨_, _, _, _, _, _, _, _, _, _, _, _, _, _, _⟩ := hh; assumption)))
                            go_enter Tryz.func29, Tryz.ntmps29
                            go_wp2_with fail
                            refine (S1 _ (KA _ _)).mono ?_; rintro e w' ⟨rfl, rfl⟩
                            go_wp2_with fail
                            refine (S2 _ (KA _ _)).mono ?_; rintro e w' ⟨rfl, rfl⟩
                            go_wp2_with fail
                            refine (S3 _ (KA _ _)).mono ?_; rintro e w' ⟨rfl, rfl⟩
                            go_wp2_with fail
                            refine (SP _).mono ?_; rintro e w' ⟨rfl, rfl⟩
                            go_wp2_with fail
                            refine (SS _).mono ?_; rintro e w' ⟨rfl, rfl⟩
                            clear S1 S2 S3 SP SS
                            go_wp2
                            go_ret
                            rw [D.out]
                            exact ⟨rfl, KA _ _⟩
                          case pos =>
                            subst hn
                            by_cases hn : ma1 = ma2
                            case neg =>
                              have D : Hid (decide (V1 = V1 ∧ O1 = O1 ∧ Y1 = Y1 ∧ k1 = k1 ∧ seq1 = seq1 ∧ key1 = key1 ∧ hi1 = hi1 ∧ has1 = has1 ∧ of1 = of1 ∧ st1 = st1 ∧ host1 = host1 ∧ gr1 = gr1 ∧ bo1 = bo1 ∧ ma1 = ma2 ∧ li1 = li2) = false) := hide (decide_eq_false (fun hh => hn (by obtain ⟨_, _, _, _, _, _, _, _, _, _, _, _, _, _, _⟩ := hh; assumption)))
                              go_enter Tryz.func29, Tryz.ntmps29
                              go_wp2_with fail
                              refine (S1 _ (KA _ _)).mono ?_; rintro e w' ⟨rfl, rfl⟩
                              go_wp2_with fail
                              refine (S2 _ (KA _ _)).mono ?_; rintro e w' ⟨rfl, rfl⟩
                              go_wp2_with fail
                              refine (S3 _ (KA _ _)).mono ?_; rintro e w' ⟨rfl, rfl⟩
                              go_wp2_with fail
                              refine (SP _).mono ?_; rintro e w' ⟨rfl, rfl⟩
                              go_wp2_with fail
                              refine (SS _).mono ?_; rintro e w' ⟨rfl, rfl⟩
                              clear S1 S2 S3 SP SS
                              go_wp2
                              go_ret
                              rw [D.out]
                              exact ⟨rfl, KA _ _⟩
                            case pos =>
                              subst hn
                              by_cases hn : li1 = li2
                              case neg =>
                                have D : Hid (decide (V1 = V1 ∧ O1 = O1 ∧ Y1 = Y1 ∧ k1 = k1 ∧ seq1 = seq1 ∧ key1 = key1 ∧ hi1 = hi1 ∧ has1 = has1 ∧ of1 = of1 ∧ st1 = st1 ∧ host1 = host1 ∧ gr1 = gr1 ∧ bo1 = bo1 ∧ ma1 = ma1 ∧ li1 = li2) = false) := hide (decide_eq_false (fun hh => hn (by obtain ⟨_, _, _, _, _, _, _, _, _, _, _, _, _, _, _⟩ := hh; assumption)))
                                have hli : (li1 == li2) = false := by simpa using hn
                                go_enter Tryz.func29, Tryz.ntmps29
                                go_wp2_with fail
                                refine (S1 _ (KA _ _)).mono ?_; rintro e w' ⟨rfl, rfl⟩
                                go_wp2_with fail
                                refine (S2 _ (KA _ _)).mono ?_; rintro e w' ⟨rfl, rfl⟩
                                go_wp2_with fail
                                refine (S3 _ (KA _ _)).mono ?_; rintro e w' ⟨rfl, rfl⟩
                                go_wp2_with fail
                                refine (SP _).mono ?_; rintro e w' ⟨rfl, rfl⟩
                                go_wp2_with fail
                                refine (SS _).mono ?_; rintro e w' ⟨rfl, rfl⟩
                                clear S1 S2 S3 SP SS
                                go_wp2
                                go_ret
                                rw [D.out]
                                exact ⟨rfl, KA _ _⟩
                              case pos =>
                                subst hn
                                have D : Hid (decide (V1 = V1 ∧ O1 = O1 ∧ Y1 = Y1 ∧ k1 = k1 ∧ seq1 = seq1 ∧ key1 = key1 ∧ hi1 = hi1 ∧ has1 = has1 ∧ of1 = of1 ∧ st1 = st1 ∧ host1 = host1 ∧ gr1 = gr1 ∧ bo1 = bo1 ∧ ma1 = ma1 ∧ li1 = li1) = true) := hide (decide_eq_true ⟨rfl, rfl, rfl, rfl, rfl, rfl, rfl, rfl, rfl, rfl, rfl, rfl, rfl, rfl, rfl⟩)
                                go_enter Tryz.func29, Tryz.ntmps29
                                go_wp2_with fail
                                refine (S1 _ (KA _ _)).mono ?_; rintro e w' ⟨rfl, rfl⟩
                                go_wp2_with fail
                                refine (S2 _ (KA _ _)).mono ?_; rintro e w' ⟨rfl, rfl⟩
                                go_wp2_with fail
                                refine (S3 _ (KA _ _)).mono ?_; rintro e w' ⟨rfl, rfl⟩
                                go_wp2_with fail
                                refine (SP _).mono ?_; rintro e w' ⟨rfl, rfl⟩
                                go_wp2_with fail
                                refine (SS _).mono ?_; rintro e w' ⟨rfl, rfl⟩
                                clear S1 S2 S3 SP SS
                                go_wp2
                                go_ret
                                rw [D.out]
                                exact ⟨rfl, KA _ _⟩
end Go.Proofs.YtmlnglillgplfaaGreat.Cl
