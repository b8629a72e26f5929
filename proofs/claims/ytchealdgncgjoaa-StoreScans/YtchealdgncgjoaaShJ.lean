import Derived.Test.YtchealdgncgjoaaShI
import Derived.BigQuiet
import Derived.Deep.QuietTactic
import Derived.Deep.RegionHeld3
import Derived.Deep.DeepCutAuto
namespace Go.Proofs.Ytchealdgncgjoaa.StU
open Go.RowKit Go.Proofs.Ytchealdgncgjoaa.St Go.Shelf
set_option linter.unusedVariables false
theorem kp_sm {w V W : World} {sb mb : Nat} (k : Kp Nu w V) (hsb : w.heap.size ≤ sb) (hmb : w.heap.size ≤ mb) (q : Kp (Sm sb mb) V W) : Kp Nu w W := k.trans q (fun i hi e => by rcases e with e | e <;> omega)
/-- Set, whatever comes of it -/
theorem set_in {w : World} {sb mb : Nat} {most : Int} {t : T (Int × Sv)} {M : List KV} (h : Sh w sb mb most t M) (k : Int) (hk0 : 0 ≤ k) (hk1 : k ≤ 18446744073709551615) (u : Value) (ys : List Int) (hu : Rd w u ys) (hby : Byt ys) (hr : (M.length : Int) < most) (b : Bool) (hb : b = (decide (ys.length ≤ 64) && !hs k M)) :
    Calls Try.prog 47 #[.pointer (some ⟨sb, 0, none⟩), .int .u64 k, u] w fun e w' => e = .returned (.tuple #[.bool b, .int .i64 (if ys.length ≤ 64 then 0 else 70)]) ∧ (∃ t' M', Sh w' sb mb most t' M' ∧ M'.length ≤ M.length + 1 ∧ ∀ lo hi, (rg lo hi M').length = (rg lo hi M).length + (if b = true ∧ lo ≤ k ∧ k ≤ hi then 1 else 0)) ∧ Kp (Sm sb mb) w w' := by
  by_cases hy : ys.length ≤ 64
  · rw [if_pos hy]
    refine (set_ok h k hk0 hk1 u ys hu hy hby (.inr hr)).mono ?_
    rintro e w' ⟨e1, ⟨v, _, h2⟩, k2⟩
    have e3 : b = !hs k M := by rw [hb, decide_eq_true hy, Bool.true_and]
    refine ⟨by rw [e1, e3], ⟨_, _, h2, by rw [putM_length]; split <;> omega, fun lo hi => ?_⟩, k2⟩
    rw [rg_put]
    congr 1
    subst e3
    cases hs k M <;> simp
  · rw [if_neg hy]
    obtain ⟨ad, cap, rfl⟩ := hu.slice
    refine (set_long h k ad ys.length cap (by omega)).mono ?_
    rintro e w' ⟨e1, rfl⟩
    have e3 : b = false := by rw [hb, decide_eq_false hy, Bool.false_and]
    refine ⟨by rw [e1, e3], ⟨_, _, h, by omega, fun lo hi => by rw [e3]; simp⟩, Kp.refl _ _⟩
set_option maxRecDepth 100000 in
set_option maxHeartbeats 4000000 in
theorem scans_walk (w : World) (v0 : Value) (S : List Pg) (lo hi lim : Int) (hS : Wp w v0 S) (hl0 : 0 ≤ lo) (hl1 : lo ≤ 18446744073709551615) (hh0 : 0 ≤ hi) (hh1 : hi ≤ 18446744073709551615) (hm : lim < 9223372036854775808) (hsl : S.length ≤ 4398046511104) :
    Calls Try.prog 10 #[v0, .int .u64 lo, .int .u64 hi, .int .i64 lim] w fun e w' => e = .returned (.bool true) ∧ Kp Nu w w' := by
  have mixed : Try.prog.follows .mixedOrders = true := by kernel_rfl
  obtain ⟨ad, cap, rfl, hc⟩ := hS
  obtain ⟨N, eN⟩ : ∃ N, S.length = N := ⟨_, rfl⟩
  rw [eN] at hsl ⊢
  have HS : Hid (∀ W, Kp Nu w W → ∀ (i : Nat) (s : Pg), S[i]? = some s → ∃ b off, ad = some ⟨b, off, none⟩ ∧ W.cell? ⟨b, off + i * 2, none⟩ = some (.int .u64 s.k) ∧ W.cell? ⟨b, off + i * 2 + 1, none⟩ = some (.slice s.v.a s.v.n s.v.c) ∧ Rd W (.slice s.v.a s.v.n s.v.c) s.ys ∧ Byt s.ys ∧ 0 ≤ s.k ∧ s.k ≤ 18446744073709551615 ∧ s.ys.length ≤ 140737488355328) := hide (fun W k i s h => by
    obtain ⟨b, off, e, c0, c1, c2, c3⟩ := hc i s h
    exact ⟨b, off, e, cell_nu c0 k, cell_nu c1 k, c2.nu k, c3⟩)
  have HB := hide (And.intro hl0 (And.intro hl1 (And.intro hh0 (And.intro hh1 (And.intro hm (And.intro hsl eN))))))
  by_cases hbig : 30000 ≤ N
  · have NA := new_ok w ((N : Int) % 30000) (by omega) (by omega)
    have hbI : (30000 : Int) ≤ (N : Int) := by omega
    clear hc hl0 hl1 hh0 hh1 hm hsl eN hbig
    go_enter Try.func10, Try.ntmps10
    go_wp2_with (go_at_call 45; refine NA.mono ?_; rintro e w1 ⟨sb, mb, rfl, hsb, hmb, h1, k1⟩)
    go_ret
    exact ⟨rfl, k1⟩
  · have e2 : (N : Int) % 30000 = (N : Int) := by omega
    have NA : Calls Try.prog 45 #[.int .i64 ((N : Int) % 30000)] w fun e w' => ∃ sb mb, e = .returned (.tuple #[.pointer (some ⟨sb, 0, none⟩), .int .i64 0]) ∧ Hid (w.heap.size ≤ sb ∧ w.heap.size ≤ mb ∧ Sh w' sb mb (N : Int) .nil [] ∧ Kp Nu w w') := by
      refine (new_ok w _ (by omega) (by omega)).mono ?_
      rintro e w' ⟨sb, mb, h1, h2, h3, h4, h5⟩
      rw [e2] at h4
      exact ⟨sb, mb, h1, h2, h3, h4, h5⟩
    have HNB : Hid ((N : Int) < 30000) := by show (N : Int) < 30000; omega
    have hbB : decide ((30000 : Int) ≤ (N : Int)) = false := decide_eq_false (by omega)
    clear hc hl0 hl1 hh0 hh1 hm hsl eN hbig e2
    go_enter Try.func10, Try.ntmps10
    go_wp2_with (go_at_call 45; refine NA.mono ?_; rintro e w1 ⟨sb, mb, rfl, H1⟩)
    go_loopw [11, 12] (fun inn i wr => ∃ (k c : Nat), i = .int .i64 (k : Int) ∧ inn = .int .i64 (c : Int) ∧ k ≤ N ∧ Hid (∃ t M, Sh wr sb mb (N : Int) t M ∧ M.length ≤ k ∧ c = (rg lo hi M).length ∧ Kp Nu w wr)) (fun _ i _ => N - (intOf i).toNat)
    case atStart => exact ⟨0, 0, rfl, rfl, Nat.zero_le _, .nil, [], H1.out.2.2.1, by simp, rfl, H1.out.2.2.2⟩
    case round =>
      obtain ⟨k, c, rfl, rfl, hk, HR⟩ := hrel
      obtain ⟨t, M, hsh, hlen, hcc, kwr⟩ := HR.out
      by_cases hlt : k < N
      · obtain ⟨s, hs⟩ : ∃ s, S[k]? = some s := ⟨_, List.getElem?_eq_getElem (by rw [HB.out.2.2.2.2.2.2]; exact hlt)⟩
        obtain ⟨b, off, ead, c0, c1, hrd, hby, hk0, hk1, hyl⟩ := HS.out wr kwr k s hs
        obtain ⟨sk, ⟨sa, sn, sc⟩, ys⟩ := s
        have HSC : Hid (∀ W, Kp Nu w W → W.cell? ⟨b, off + k * 2, none⟩ = some (.int .u64 sk) ∧ W.cell? ⟨b, off + k * 2 + 1, none⟩ = some (.slice sa sn sc)) := hide (fun W q => by
          obtain ⟨b', off', e', d0, d1, _⟩ := HS.out W q k _ hs
          rw [ead] at e'; cases e'
          exact ⟨d0, d1⟩)
        subst ead
        have hn : sn = ys.length := by
          obtain ⟨ad', cap', e'⟩ := hrd.slice
          exact (Value.slice.inj e').2.1
        have CC : ∀ W, Kp Nu wr W → Calls Try.prog 48 #[.slice sa sn sc] W fun e w' => ∃ v : Sv, e = .returned (.slice v.a v.n v.c) ∧ Rd w' (.slice v.a v.n v.c) ys ∧ Kp Nu wr w' := fun W q => by
          refine (clone48 W _ ys (hrd.nu q) hyl).mono ?_
          rintro e w' ⟨v, e1, e2, e3⟩
          exact ⟨v, e1, Rd.of_own e2, q.andNu e3⟩
        have hnb := HNB.out
        have hcb : c ≤ 30000 := by
          have : (rg lo hi M).length ≤ M.length := List.length_filter_le _ _
          omega
        obtain ⟨g, hg⟩ : ∃ g : Int, g = (if ys.length ≤ 64 then 0 else 70) := ⟨_, rfl⟩
        obtain ⟨cr, hcr⟩ : ∃ cr, cr = (decide (ys.length ≤ 64) && !StU.hs sk M) := ⟨_, rfl⟩
        have SC : ∀ W (v : Sv), Kp Nu wr W → Rd W (.slice v.a v.n v.c) ys → Calls Try.prog 47 #[.pointer (some ⟨sb, 0, none⟩), .int .u64 sk, .slice v.a v.n v.c] W fun e w' => e = .returned (.tuple #[.bool cr, .int .i64 g]) ∧ Hid (∃ t' M', Sh w' sb mb (N : Int) t' M' ∧ M'.length ≤ k + 1 ∧ c + (if cr = true ∧ lo ≤ sk ∧ sk ≤ hi then 1 else 0) = (rg lo hi M').length) ∧ Kp Nu w w' := fun W v q hv => by
          refine (set_in (hsh.nu q) sk hk0 hk1 _ ys hv hby (by omega) cr hcr).mono ?_
          rintro e w' ⟨e1, ⟨t', M', e2, e3, e4⟩, e5⟩
          exact ⟨by rw [e1, hg], ⟨t', M', e2, by omega, by rw [e4, hcc]⟩, kp_sm (kwr.andNu q) H1.out.1 H1.out.2.1 e5⟩
        have hltI : (k : Int) < (N : Int) := by omega
        have hk00 : (0 : Int) ≤ (k : Int) := by omega
        have hwk : wrap64 ((k : Int) + 1) = ((k + 1 : Nat) : Int) := by unfold wrap64; omega
        have hwc : wrap64 ((c : Int) + 1) = ((c + 1 : Nat) : Int) := by unfold wrap64; omega
        have HW := hide (And.intro hlt (And.intro hwk (And.intro hwc (And.intro hg (And.intro hn hcr)))))
        have kr0 := Kp.refl Nu wr
        clear hs hsh hlen hcc hrd hby hk0 hk1 hyl hcb hcr hwk hwc HR hlt hk hnb hg hn
        go_wp2_with fail
        go_region_held3 (fun W => W.cell? ⟨b, off + k * 2, none⟩ = some (.int .u64 sk) ∧ W.cell? ⟨b, off + k * 2 + 1, none⟩ = some (.slice sa sn sc)) (first | (refine HSC.out _ ?_; first | assumption | (apply Kp.drew; assumption); done) | (refine HSC.out _ (kwr.andNu ?_); repeat (first | assumption | exact Kp.refl _ _ | apply Kp.drew)))
          (first
            | (go_at_call 48; refine (CC _ ?_).mono ?_; (repeat (first | assumption | exact Kp.refl _ _ | apply Kp.drew)); rintro e w2 ⟨v, rfl, hv2, k2⟩)
            | (go_at_call 47; refine (SC _ v ?_ ?_).mono ?_; assumption; assumption; rintro e w3 ⟨rfl, h3, k3⟩))
        obtain ⟨d0, d1⟩ := HSC.out _ k3
        obtain ⟨hlt, hwk, hwc, hg, hn, hcr⟩ := HW.out
        have HK : Hid (k < N ∧ wrap64 ((k : Int) + 1) = ((k + 1 : Nat) : Int) ∧ wrap64 ((c : Int) + 1) = ((c + 1 : Nat) : Int) ∧ Kp Nu w w3) := ⟨hlt, hwk, hwc, k3⟩
        have hcase : (g = 0 ∧ (sn : Int) ≤ 64 ∧ cr = false) ∨ (g = 0 ∧ (sn : Int) ≤ 64 ∧ cr = true ∧ ¬ lo ≤ sk) ∨ (g = 0 ∧ (sn : Int) ≤ 64 ∧ cr = true ∧ lo ≤ sk ∧ ¬ sk ≤ hi) ∨ (g = 70 ∧ ¬ (sn : Int) ≤ 64 ∧ cr = false) ∨ (g = 0 ∧ (sn : Int) ≤ 64 ∧ cr = true ∧ lo ≤ sk ∧ sk ≤ hi) := by
          by_cases hle : ys.length ≤ 64
          · rw [if_pos hle] at hg
            have h1 : (sn : Int) ≤ 64 := by omega
            cases cr with
            | false => exact .inl ⟨hg, h1, rfl⟩
            | true =>
              by_cases ha : lo ≤ sk
              · by_cases hb : sk ≤ hi
                · exact .inr (.inr (.inr (.inr ⟨hg, h1, rfl, ha, hb⟩)))
                · exact .inr (.inr (.inl ⟨hg, h1, rfl, ha, hb⟩))
              · exact .inr (.inl ⟨hg, h1, rfl, ha⟩)
          · rw [if_neg hle] at hg
            refine .inr (.inr (.inr (.inl ⟨hg, by omega, ?_⟩)))
            rw [hcr, decide_eq_false hle]; rfl
        clear hlt hwk hwc hg hn hcr HW HSC CC SC k2 hv2 H1
        rcases hcase with ⟨rfl, hle, rfl⟩ | ⟨rfl, hle, rfl, ha⟩ | ⟨rfl, hle, rfl, ha, hb⟩ | ⟨rfl, hle, rfl⟩ | ⟨rfl, hle, rfl, ha, hb⟩
        case inr.inr.inr.inr =>
          have HF : Hid (∃ t M, Sh w3 sb mb (N : Int) t M ∧ M.length ≤ k + 1 ∧ c + 1 = (rg lo hi M).length ∧ Kp Nu w w3) := by
            obtain ⟨t', M', e1, e2, e3⟩ := h3.out
            rw [if_pos ⟨rfl, ha, hb⟩] at e3
            exact ⟨t', M', e1, e2, e3, HK.out.2.2.2⟩
          clear h3
          go_wp2
          exact ⟨⟨k + 1, c + 1, by rw [HK.out.2.1], by rw [HK.out.2.2.1], HK.out.1, HF⟩, lt_mi HK.out.2.1 HK.out.1⟩
        all_goals
          have HF : Hid (∃ t M, Sh w3 sb mb (N : Int) t M ∧ M.length ≤ k + 1 ∧ c = (rg lo hi M).length ∧ Kp Nu w w3) := by
            obtain ⟨t', M', e1, e2, e3⟩ := h3.out
            rw [if_neg (by intro h; first | exact ha h.2.1 | exact hb h.2.2 | exact Bool.noConfusion h.1)] at e3
            exact ⟨t', M', e1, e2, e3, HK.out.2.2.2⟩
          clear h3
          go_wp2
          exact ⟨⟨k + 1, c, by rw [HK.out.2.1], rfl, HK.out.1, HF⟩, lt_mi HK.out.2.1 HK.out.1⟩
      · have hkN : k = N := by omega
        subst hkN
        have HX : Hid (c = (rg lo hi M).length ∧ Sh wr sb mb (k : Int) t M ∧ Kp Nu w wr) := ⟨hcc, hsh, kwr⟩
        have hnl : ¬ (k : Int) < (k : Int) := by omega
        clear hsh hlen hcc kwr HR hlt hk
        go_upto_if 96 with fail
        clear hbB hnl NA H1
        go_cut [3] (fun s3 wc => ∃ L : Int, s3 = .int .i64 L ∧ Hid (1 ≤ L ∧ L < 9223372036854775808) ∧ wc = wr)
        case first =>
          have HLM := hide HB.out.2.2.2.2.1
          clear HS HB HNB HX mixed
          by_cases h1 : lim < 1
          · go_wp2
            go_meet
            case rel => exact ⟨1, rfl, hide ⟨by omega, by omega⟩, rfl⟩
          · go_wp2
            go_meet
            case rel => exact ⟨lim, rfl, hide ⟨by omega, HLM.out⟩, rfl⟩
        case rest =>
          obtain ⟨L, rfl, HL, rfl⟩ := hcut
          have hcb : c ≤ 30000 := by
            have h1 : (rg lo hi M).length ≤ M.length := List.length_filter_le _ _
            have h2 := HX.out.2.1.lm
            have h3 := HNB.out
            have h4 := HX.out.1
            omega
          have HC := hide hcb
          clear hcb
          go_wp2_with fail
          go_loopw [15, 16] (fun sn at_ wr => ∃ (q : Nat) (a : Int), sn = .int .i64 (q : Int) ∧ at_ = .int .u64 a ∧ q ≤ c ∧ Hid (rg a hi M = (rg lo hi M).drop q ∧ lo ≤ a ∧ Kp Nu wc wr)) (fun sn _ _ => c - (intOf sn).toNat)
          case atStart => exact ⟨0, lo, rfl, rfl, Nat.zero_le _, rfl, Int.le_refl _, Kp.refl _ _⟩
          case round =>
            obtain ⟨q, a, rfl, rfl, hq, HQ⟩ := hrel
            obtain ⟨hcR, hshw, hkw⟩ := HX.out
            obtain ⟨hdr, hla, kq⟩ := HQ.out
            have hsh := hshw.nu kq
            have hris := hsh.ris
            by_cases hah : a ≤ hi
            · have hRl : (rg a hi M).length = c - q := by rw [hdr, List.length_drop, ← hcR]
              obtain ⟨K, hK⟩ : ∃ K, K = min (rg a hi M).length L.toNat := ⟨_, rfl⟩
              have SA := scan_any hsh a hi L K hK
              rw [hRl] at SA hK
              have hKL : ¬ L < (K : Int) := by have := HL.out.1; omega
              by_cases hmore : K < c - q
              · have hKeq : L = (K : Int) := by have := HL.out.1; omega
                have HME := hide (And.intro hmore HL.out.1)
                rw [decide_eq_true hmore] at SA
                subst hKeq
                have HQ2 : Hid (rg a hi M = (rg lo hi M).drop q ∧ q + K ≤ (rg lo hi M).length ∧ lo ≤ a ∧ q + K ≤ c) := ⟨hdr, by omega, hla, by omega⟩
                have HR0 := hide (And.intro hcR (And.intro (hkw.andNu kq) (And.intro hsh (And.intro hK kq))))
                clear hdr hla kq hshw hkw hris hcR HQ HX hRl hK hq hmore
                go_wp2_with (go_at_call 49; refine SA.mono ?_; rintro e w2 ⟨gk, Ls, rfl, z2, k2⟩)
                have HS2 := hide (And.intro (HR0.out.2.2.1.nu k2) (And.intro z2 (And.intro (HR0.out.2.1.andNu k2) (HR0.out.2.2.2.2.andNu k2))))
                clear z2 k2 hsh SA
                obtain ⟨wo, ewo⟩ : ∃ wo : World, wo = wr := ⟨_, rfl⟩
                subst ewo
                go_loopw [15, 19] (fun sn it wr => ∃ j : Nat, sn = .int .i64 ((q + j : Nat) : Int) ∧ it = .int .i64 (j : Int) ∧ j ≤ K ∧ Hid (Kp Nu w2 wr)) (fun _ it _ => K - (intOf it).toNat)
                case atStart => exact ⟨0, by simp, rfl, Nat.zero_le _, Kp.refl _ _⟩
                case round =>
                  obtain ⟨j, rfl, rfl, hjK, HKj⟩ := hrel
                  by_cases hj : j < K
                  · obtain ⟨m, hm⟩ : ∃ m, (rg lo hi M)[q + j]? = some m := ⟨_, List.getElem?_eq_getElem (by have := HQ2.out.2.1; omega)⟩
                    have hma : ((rg a hi M).take K)[j]? = some m := by rw [List.getElem?_take_of_lt hj, HQ2.out.1, List.getElem?_drop]; exact hm
                    have hmr := rg_mem (List.mem_of_getElem? hm)
                    have hmq := rg_mem (M := M) (lo := a) (hi := hi) (List.mem_of_mem_take (List.mem_of_getElem? hma))
                    have hsh3 := HS2.out.1.nu HKj.out
                    obtain ⟨hh1, hg1⟩ := hsh3.ris.get hmr.1
                    obtain ⟨p, hp, hfv, d0, d1⟩ := (HS2.out.2.1.nu HKj.out).at_ hma
                    have NY := nth_yes hsh3 lo hi (q + j) m hm
                    have GA : ∀ W, Kp Nu wr W → Calls Try.prog 46 #[.pointer (some ⟨sb, 0, none⟩), .int .u64 m.1] W fun e w' => ∃ v : Sv, e = .returned (.tuple #[.slice v.a v.n v.c, .bool true]) ∧ Hid (Rd w' (.slice v.a v.n v.c) m.2) ∧ Kp Nu wr w' := fun W k => by
                      have := get46 (hsh3.nu k) m.1
                      rw [hh1, hg1] at this
                      refine this.mono ?_
                      rintro e w' ⟨v, e1, e2, e3⟩
                      exact ⟨v, e1, Rd.of_own e2, k.andNu e3⟩
                    have HCL : Hid (∀ W, Kp Nu wr W → W.cell? ⟨gk, j * 2, none⟩ = some (.int .u64 m.1) ∧ W.cell? ⟨gk, j * 2 + 1, none⟩ = some (.slice p.2.a p.2.n p.2.c) ∧ Rd W (.slice p.2.a p.2.n p.2.c) m.2) := hide (fun W k => ⟨cell_nu d0 k, cell_nu d1 k, (hfv.rd).nu k⟩)
                    have HBY := hide hfv.2.2.2.2.2
                    have x1 : (m.1 != m.1) = false := by simp
                    have x2 : ¬ m.1 < a := by omega
                    have x3 : ¬ hi < m.1 := by omega
                    have x4 : ((bstr m.2).toList == (bstr m.2).toList) = true := by simp
                    have x5 : ((bstr m.2).toList != (bstr m.2).toList) = false := by simp
                    have hjI : (j : Int) < (K : Int) := by omega
                    have hj0 : (0 : Int) ≤ (j : Int) := by omega
                    have hwj : wrap64 ((j : Int) + 1) = ((j + 1 : Nat) : Int) := by have := HC.out; have := HQ2.out.2.2.2; unfold wrap64; omega
                    have hwq : wrap64 ((q : Int) + (j : Int) + 1) = ((q + (j + 1) : Nat) : Int) := by have := HC.out; have := HQ2.out.2.2.2; unfold wrap64; omega
                    have HW := hide (And.intro hj (And.intro hwj hwq))
                    generalize m.1 = mk at *
                    generalize m.2 = mys at *
                    obtain ⟨pk, ⟨pa, pn, pcp⟩⟩ := p
                    clear hm hma hmr hmq hsh3 hh1 hg1 hp hfv hwj hwq hj hjK
                    go_wp2_with (first
                      | (go_at_call 53; refine NY.mono ?_; rintro e w4 ⟨rfl, k4⟩; obtain ⟨g0, g1, g2⟩ := HCL.out _ k4)
                      | (go_at_call 46; refine (GA _ k4).mono ?_; rintro e w5 ⟨⟨va, vn, vc⟩, rfl, hv5, k5⟩))
                    obtain ⟨f0, f1, f2⟩ := HCL.out _ k5
                    have cv1 : ∀ n, (convert 74 9 (.slice pa pn pcp)).run Try.prog (w5.drewN n) = .ok (.string (bstr mys)) (w5.drewN n) := fun n => conv_rd (f2.nu (kpN (Kp.refl Nu w5) n)) HBY.out
                    have cv2 : ∀ n, (convert 74 9 (.slice va vn vc)).run Try.prog (w5.drewN n) = .ok (.string (bstr mys)) (w5.drewN n) := fun n => conv_rd (hv5.out.nu (kpN (Kp.refl Nu w5) n)) HBY.out
                    have hk6 := hide (HKj.out.andNu k5)
                    clear f2 g0 g1 g2 hv5 HCL NY GA
                    go_quiet (fail)
                    have hk7 := hide (kpN hk6.out nq)
                    clear cv1 cv2 x1 x4 x5 f0 f1 hjI hj0 d0 d1 hah mixed HB HNB HS
                    go_wp2
                    exact ⟨⟨j + 1, by rw [HW.out.2.2], by rw [HW.out.2.1], HW.out.1, hk7⟩, lt_mi HW.out.2.1 HW.out.1⟩
                  · obtain rfl : K = j := by omega
                    obtain ⟨m, hm⟩ : ∃ m, (rg lo hi M)[q + K - 1]? = some m := ⟨_, List.getElem?_eq_getElem (by have := HQ2.out.2.1; have := HME.out; omega)⟩
                    have hK1 : 1 ≤ K := by have := HME.out.2; omega
                    have hma : ((rg a hi M).take K)[K - 1]? = some m := by rw [List.getElem?_take_of_lt (by omega), HQ2.out.1, List.getElem?_drop]; rw [show q + (K - 1) = q + K - 1 by omega]; exact hm
                    have hmr := rg_mem (List.mem_of_getElem? hm)
                    have hsh3 := HS2.out.1.nu HKj.out
                    obtain ⟨p, hp, hfv, d0, d1⟩ := (HS2.out.2.1.nu HKj.out).at_ hma
                    have hrest := rg_rest hsh3.ris lo hi hm
                    rw [show q + K - 1 + 1 = q + K by omega] at hrest
                    obtain ⟨m', hm'⟩ : ∃ m', (rg lo hi M)[q + K]? = some m' := ⟨_, List.getElem?_eq_getElem (by rw [← HR0.out.1]; have := HME.out.1; omega)⟩
                    have hlt2 : m.1 < m'.1 ∧ m'.1 ≤ hi := by
                      have h1 := List.pairwise_iff_getElem.1 (hsh3.ris.rg lo hi) (q + K - 1) (q + K) (List.getElem?_eq_some_iff.1 hm).1 (List.getElem?_eq_some_iff.1 hm').1 (by omega)
                      rw [(List.getElem?_eq_some_iff.1 hm).2, (List.getElem?_eq_some_iff.1 hm').2] at h1
                      exact ⟨h1, (rg_mem (List.mem_of_getElem? hm')).2.2⟩
                    have hwu : IntKind.u64.wrap (m.1 + 1) = m.1 + 1 := by
                      have h1 := hfv.2.2.2.1
                      have h2 := HB.out.2.2.2.1
                      rw [IntKind.wrap_u64]; omega
                    have i0 : (0 : Int) ≤ (K : Int) - 1 := by omega
                    have i1 : (K : Int) - 1 < (K : Int) := by omega
                    have i2 : ((K : Int) - 1).toNat = K - 1 := by omega
                    have i3 : wrap64 ((K : Int) - 1) = (K : Int) - 1 := by have := HC.out; have := HQ2.out.2.2.2; unfold wrap64; omega
                    have hnl : ¬ (K : Int) < (K : Int) := by omega
                    have HE : Hid (q + K ≤ c ∧ c - (q + K) < c - q ∧ rg (m.1 + 1) hi M = (rg lo hi M).drop (q + K) ∧ lo ≤ m.1 + 1 ∧ Kp Nu wc wr) := by
                      have h1 := HME.out
                      exact ⟨HQ2.out.2.2.2, by omega, hrest, by omega, HS2.out.2.2.2.andNu HKj.out⟩
                    generalize m.1 = mk at *
                    clear hm hma hmr hsh3 hp hfv hrest hm' hlt2 hK1 hjK d1 hj
                    go_wp2
                    exact ⟨⟨q + K, mk + 1, rfl, rfl, HE.out.1, hide ⟨HE.out.2.2.1, HE.out.2.2.2.1, HE.out.2.2.2.2⟩⟩, by have := HE.out.2.1; show c - (((q + K : Nat) : Int)).toNat < c - ((q : Int)).toNat; rw [Int.toNat_natCast, Int.toNat_natCast]; exact this⟩
              · rw [decide_eq_false hmore] at SA
                have hKc : q + K = c := by omega
                have hKB : decide (L < (K : Int)) = false := decide_eq_false hKL
                clear hKL
                have HME := hide hKc
                have HQ2 : Hid (rg a hi M = (rg lo hi M).drop q ∧ q + K ≤ (rg lo hi M).length ∧ lo ≤ a ∧ q + K ≤ c) := ⟨hdr, by omega, hla, by omega⟩
                have HR0 := hide (And.intro hcR (And.intro (hkw.andNu kq) (And.intro hsh (And.intro hK kq))))
                clear hdr hla kq hshw hkw hris hcR HQ HX hRl hK hq hmore hKc
                go_wp2_with (go_at_call 49; refine SA.mono ?_; rintro e w2 ⟨gk, Ls, rfl, z2, k2⟩)
                have HS2 := hide (And.intro (HR0.out.2.2.1.nu k2) (And.intro z2 (And.intro (HR0.out.2.1.andNu k2) (HR0.out.2.2.2.2.andNu k2))))
                clear z2 k2 hsh SA
                obtain ⟨wo, ewo⟩ : ∃ wo : World, wo = wr := ⟨_, rfl⟩
                subst ewo
                go_loopw [15, 19] (fun sn it wr => ∃ j : Nat, sn = .int .i64 ((q + j : Nat) : Int) ∧ it = .int .i64 (j : Int) ∧ j ≤ K ∧ Hid (Kp Nu w2 wr)) (fun _ it _ => K - (intOf it).toNat)
                case atStart => exact ⟨0, by simp, rfl, Nat.zero_le _, Kp.refl _ _⟩
                case round =>
                  obtain ⟨j, rfl, rfl, hjK, HKj⟩ := hrel
                  by_cases hj : j < K
                  · obtain ⟨m, hm⟩ : ∃ m, (rg lo hi M)[q + j]? = some m := ⟨_, List.getElem?_eq_getElem (by have := HQ2.out.2.1; omega)⟩
                    have hma : ((rg a hi M).take K)[j]? = some m := by rw [List.getElem?_take_of_lt hj, HQ2.out.1, List.getElem?_drop]; exact hm
                    have hmr := rg_mem (List.mem_of_getElem? hm)
                    have hmq := rg_mem (M := M) (lo := a) (hi := hi) (List.mem_of_mem_take (List.mem_of_getElem? hma))
                    have hsh3 := HS2.out.1.nu HKj.out
                    obtain ⟨hh1, hg1⟩ := hsh3.ris.get hmr.1
                    obtain ⟨p, hp, hfv, d0, d1⟩ := (HS2.out.2.1.nu HKj.out).at_ hma
                    have NY := nth_yes hsh3 lo hi (q + j) m hm
                    have GA : ∀ W, Kp Nu wr W → Calls Try.prog 46 #[.pointer (some ⟨sb, 0, none⟩), .int .u64 m.1] W fun e w' => ∃ v : Sv, e = .returned (.tuple #[.slice v.a v.n v.c, .bool true]) ∧ Hid (Rd w' (.slice v.a v.n v.c) m.2) ∧ Kp Nu wr w' := fun W k => by
                      have := get46 (hsh3.nu k) m.1
                      rw [hh1, hg1] at this
                      refine this.mono ?_
                      rintro e w' ⟨v, e1, e2, e3⟩
                      exact ⟨v, e1, Rd.of_own e2, k.andNu e3⟩
                    have HCL : Hid (∀ W, Kp Nu wr W → W.cell? ⟨gk, j * 2, none⟩ = some (.int .u64 m.1) ∧ W.cell? ⟨gk, j * 2 + 1, none⟩ = some (.slice p.2.a p.2.n p.2.c) ∧ Rd W (.slice p.2.a p.2.n p.2.c) m.2) := hide (fun W k => ⟨cell_nu d0 k, cell_nu d1 k, (hfv.rd).nu k⟩)
                    have HBY := hide hfv.2.2.2.2.2
                    have x1 : (m.1 != m.1) = false := by simp
                    have x2 : ¬ m.1 < a := by omega
                    have x3 : ¬ hi < m.1 := by omega
                    have x4 : ((bstr m.2).toList == (bstr m.2).toList) = true := by simp
                    have x5 : ((bstr m.2).toList != (bstr m.2).toList) = false := by simp
                    have hjI : (j : Int) < (K : Int) := by omega
                    have hj0 : (0 : Int) ≤ (j : Int) := by omega
                    have hwj : wrap64 ((j : Int) + 1) = ((j + 1 : Nat) : Int) := by have := HC.out; have := HQ2.out.2.2.2; unfold wrap64; omega
                    have hwq : wrap64 ((q : Int) + (j : Int) + 1) = ((q + (j + 1) : Nat) : Int) := by have := HC.out; have := HQ2.out.2.2.2; unfold wrap64; omega
                    have HW := hide (And.intro hj (And.intro hwj hwq))
                    generalize m.1 = mk at *
                    generalize m.2 = mys at *
                    obtain ⟨pk, ⟨pa, pn, pcp⟩⟩ := p
                    clear hm hma hmr hmq hsh3 hh1 hg1 hp hfv hwj hwq hj hjK
                    go_wp2_with (first
                      | (go_at_call 53; refine NY.mono ?_; rintro e w4 ⟨rfl, k4⟩; obtain ⟨g0, g1, g2⟩ := HCL.out _ k4)
                      | (go_at_call 46; refine (GA _ k4).mono ?_; rintro e w5 ⟨⟨va, vn, vc⟩, rfl, hv5, k5⟩))
                    obtain ⟨f0, f1, f2⟩ := HCL.out _ k5
                    have cv1 : ∀ n, (convert 74 9 (.slice pa pn pcp)).run Try.prog (w5.drewN n) = .ok (.string (bstr mys)) (w5.drewN n) := fun n => conv_rd (f2.nu (kpN (Kp.refl Nu w5) n)) HBY.out
                    have cv2 : ∀ n, (convert 74 9 (.slice va vn vc)).run Try.prog (w5.drewN n) = .ok (.string (bstr mys)) (w5.drewN n) := fun n => conv_rd (hv5.out.nu (kpN (Kp.refl Nu w5) n)) HBY.out
                    have hk6 := hide (HKj.out.andNu k5)
                    clear f2 g0 g1 g2 hv5 HCL NY GA
                    go_quiet (fail)
                    have hk7 := hide (kpN hk6.out nq)
                    clear cv1 cv2 x1 x4 x5 f0 f1 hjI hj0 d0 d1 hah mixed HB HNB HS
                    go_wp2
                    exact ⟨⟨j + 1, by rw [HW.out.2.2], by rw [HW.out.2.1], HW.out.1, hk7⟩, lt_mi HW.out.2.1 HW.out.1⟩
                  · obtain rfl : K = j := by omega
                    have hsh3 := HS2.out.1.nu HKj.out
                    have NN : Calls Try.prog 53 #[.pointer (some ⟨sb, 0, none⟩), .int .u64 lo, .int .u64 hi, .int .i64 ((q : Int) + (K : Int))] wr fun e w' => e = .returned (.tuple #[.int .u64 0, .bool false]) ∧ Kp Nu wr w' := by
                      have := nth_no hsh3 lo hi (q + K) (by rw [← HR0.out.1, HME.out]; exact Nat.le_refl _)
                      rwa [Int.natCast_add] at this
                    have CA := fun W (k : Kp Nu wr W) => count_any54 (hsh3.nu k) lo hi
                    rw [← HR0.out.1] at CA
                    have HK := hide (HS2.out.2.2.1.andNu HKj.out)
                    have y1 : ((q : Int) + (K : Int) == (c : Int)) = true := by have := HME.out; simp; omega
                    have y2 : ((c : Int) == (c : Int)) = true := by simp
                    have hnl : ¬ (K : Int) < (K : Int) := by omega
                    clear hsh3 hjK hj
                    go_wp2_with (first
                      | (go_at_call 53; refine NN.mono ?_; rintro e w5 ⟨rfl, k5⟩)
                      | (go_at_call 54; refine (CA _ k5).mono ?_; rintro e w6 ⟨rfl, k6⟩))
                    go_ret
                    exact ⟨rfl, (HK.out.andNu k5).andNu k6⟩
            · have hqc : q = c := by
                have h1 : rg a hi M = [] := List.filter_eq_nil_iff.2 (fun m _ => by unfold inR; simp; omega)
                rw [h1] at hdr
                have h2 := congrArg List.length hdr
                rw [List.length_drop, ← hcR] at h2
                simp at h2; omega
              subst hqc
              have NN := nth_no hsh lo hi q (by omega)
              have CA := fun W (k : Kp Nu wr W) => count_any54 (hsh.nu k) lo hi
              rw [← hcR] at CA
              have HK := hide (hkw.andNu kq)
              clear hdr hcR hshw hkw hla kq hsh hris HQ
              go_wp2_with (first
                | (go_at_call 53; refine NN.mono ?_; rintro e w5 ⟨rfl, k5⟩)
                | (go_at_call 54; refine (CA _ k5).mono ?_; rintro e w6 ⟨rfl, k6⟩))
              go_ret
              exact ⟨rfl, (HK.out.andNu k5).andNu k6⟩
end Go.Proofs.Ytchealdgncgjoaa.StU
