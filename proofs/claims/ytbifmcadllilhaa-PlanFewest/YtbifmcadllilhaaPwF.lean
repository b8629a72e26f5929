import Derived.Test.YtbifmcadllilhaaPwE
import Derived.Test.YtbifmcadllilhaaPwD
import Derived.Test.YtbifmcadllilhaaPdO
import Derived.Test.YtbifmcadllilhaaPvC
namespace Go.Proofs.Ytbifmcadllilhaa.Rg
open Go.RowKit Go.Shelf Go.Sort
open Go.Proofs.Ytbifmcadllilhaa.It
set_option linter.unusedVariables false
/-- which keys have gone, up to a place by this move too -/
def gis (A B : Int → Bool) (ks : List Int) (j : Nat) : List Value := (ks.take j).map (fun x => Value.bool (A x || B x)) ++ (ks.drop j).map (fun x => Value.bool (A x))
theorem gis_len (A B : Int → Bool) (ks : List Int) (j : Nat) : (gis A B ks j).length = ks.length := by
  unfold gis
  rw [List.length_append, List.length_map, List.length_map, ← List.length_append, List.take_append_drop]
theorem gis_get (A B : Int → Bool) {ks : List Int} {j : Nat} {x : Int} (h : ks[j]? = some x) : (gis A B ks j)[j]? = some (.bool (A x)) := by
  have hj := (List.getElem?_eq_some_iff.1 h).1
  unfold gis
  rw [List.getElem?_append_right (by rw [List.length_map, List.length_take]; omega), List.length_map, List.length_take, Nat.min_eq_left (by omega), Nat.sub_self, List.getElem?_map, List.getElem?_drop, Nat.add_zero, h]
  rfl
theorem gis_step (A B : Int → Bool) {ks : List Int} {j : Nat} {x : Int} (h : ks[j]? = some x) : (gis A B ks j).set j (.bool (A x || B x)) = gis A B ks (j + 1) := by
  have hj := (List.getElem?_eq_some_iff.1 h).1
  have e1 : ks.take (j + 1) = ks.take j ++ [x] := by rw [List.take_add_one, h]; rfl
  have e2 : ks.drop j = x :: ks.drop (j + 1) := by rw [List.drop_eq_getElem_cons hj, (List.getElem?_eq_some_iff.1 h).2]
  have e3 : ((ks.take j).map (fun x => Value.bool (A x || B x))).length = j := by rw [List.length_map, List.length_take]; omega
  unfold gis
  rw [e1, e2, List.map_append, List.map_cons, List.set_append_right _ _ (by omega), e3, Nat.sub_self, List.set_cons_zero]
  simp
theorem gis_same (A B : Int → Bool) {ks : List Int} {j : Nat} {x : Int} (h : ks[j]? = some x) (hb : B x = false) : gis A B ks j = gis A B ks (j + 1) := by
  rw [← gis_step A B h, hb, Bool.or_false]
  refine (List.ext_getElem? (fun k => ?_)).symm
  rw [List.getElem?_set]
  by_cases e : j = k
  · subst e
    rw [if_pos rfl, gis_len, if_pos (List.getElem?_eq_some_iff.1 h).1, gis_get A B h]
  · rw [if_neg e]
theorem gis_zero (A B : Int → Bool) (ks : List Int) : gis A B ks 0 = ks.map (fun x => Value.bool (A x)) := by simp [gis]
theorem gis_all (A B : Int → Bool) (ks : List Int) : gis A B ks ks.length = ks.map (fun x => Value.bool (A x || B x)) := by simp [gis]
theorem info4z : (Try.prog.info? 4).map (fun i => (i.zero, i.size, i.bytes)) = some (some (.bool false), 1, 1) := by kernel_rfl
theorem bool_at {w : World} {B g m c : Nat} {l : List Value} (h : w.ownsRow B 4 1 (.slice (some ⟨g, 0, none⟩) m c) m l) (hm : l.length = m) {i : Nat} {x : Value} (hi : l[i]? = some x) : w.cell? ⟨g, i, none⟩ = some x ∧ w.frozen? ⟨g, i, none⟩ = false := by
  subst hm
  obtain ⟨r, cap, e, _, h1, cur, h2⟩ := row1_at h hi
  simp only [Value.slice.injEq, Option.some.injEq, Addr.mk.injEq, and_true] at e
  obtain ⟨rfl, _⟩ := e
  exact ⟨h1, free3 h2 i⟩
theorem zero_bool (ks : List Int) (A : Int → Bool) (hA : ∀ x, A x = false) : (madeCells (Value.bool false).cells (ks.length * 1)).toList = ks.map (fun x => Value.bool (A x)) := by
  have e : ks.map (fun x => Value.bool (A x)) = List.replicate ks.length (.bool false) := by
    rw [List.eq_replicate_iff]
    refine ⟨by simp, fun b hb => ?_⟩
    obtain ⟨x, _, h⟩ := List.mem_map.1 hb
    rw [← h, hA x]
  rw [e]
  simp only [madeCells, Value.cells]
  simp [Nat.mod_one, List.map_const']
/-- what the moves of a layout that may be come to -/
structure FwR (k : List Int) (most : Int) (N : Nat) (o : List Int) (ms : List Mv) : Prop where
  ol : o.length = N
  ob : ∀ x ∈ o, 0 ≤ x ∧ x ≤ 4096
  os : o.sum = (k.length : Int)
  g : ∀ (i : Nat) m, ms[i]? = some m → MvG k most N m ∧ ∀ x ∈ k, inr m x = true → (ms.take i).any (fun m' => inr m' x) = false
  sum : (ms.map (·.n)).sum = few ((k.length : Int) / (N : Int)) o ((k.length : Int) % (N : Int)).toNat
theorem fw_of {S : List Sg} {k : List Int} {most : Int} {N : Nat} {ms : List Mv} {σ : Sig} (hS : Good S) (hb : ∀ s ∈ S, 0 ≤ s.h ∧ s.h < (N : Int)) (n1 : 1 ≤ N) (n16 : N ≤ 16) (hr : Ris k) (hk : ∀ x ∈ k, 0 ≤ x ∧ x < 18446744073709551616) (hkl : k.length ≤ 4096) (hm : 1 ≤ most) (hst : Stps k most (sg0 N (lays [] S) k) ms σ) (hf : Fin σ) : FwR k most N (Pn.lds N (k.map (ow S))) ms := by
  have lc := lays_cov (A := []) (a := 0) (m := 0) rfl hS.cov
  have eow : k.map (ow (lays [] S)) = k.map (ow S) := List.map_congr_left (fun x hx => by
    have h := hk x hx
    rw [lc.2 x h.1 h.2, if_neg (by omega)])
  have hi0 := inv0 hS.tab hr hk n1 n16
  have hGn : Gn (fun _ => False) (lays [] S) (sg0 N (lays [] S) k) := fun x _ _ h => h.elim
  obtain ⟨hg, hsum⟩ := Stps.good hr hk hm hst hi0 hGn
  have hgl : (sg0 N (lays [] S) k).gv.length = N := by simp [sg0]
  rw [hgl] at hg
  have ol : (Pn.lds N (k.map (ow S))).length = N := Pn.lds_len _ _
  have ob : ∀ x ∈ Pn.lds N (k.map (ow S)), 0 ≤ x ∧ x ≤ 4096 := fun x hx => by
    obtain ⟨q, _, rfl⟩ := List.mem_map.1 hx
    have := Pn.cnt_le (k.map (ow S)) q
    rw [List.length_map] at this
    omega
  have os : (Pn.lds N (k.map (ow S))).sum = (k.length : Int) := by
    have h := cnt_sum_eq N (k.map (ow S)) (fun x hx => by
      obtain ⟨y, hy, rfl⟩ := List.mem_map.1 hx
      have h := hk y hy
      obtain ⟨s, hs, _, _, e, _⟩ := plc_facts hS.cov h.1 h.2
      rw [← e]
      exact hb s (List.mem_of_getElem? hs))
    rw [List.length_map] at h
    exact h
  refine ⟨ol, ob, os, fun i m hi => ?_, ?_⟩
  · obtain ⟨g1, g2⟩ := hg i m hi
    refine ⟨g1, fun x hx hin => ?_⟩
    rw [List.any_eq_false]
    intro m' hm'
    obtain ⟨j, hj⟩ := List.getElem?_of_mem hm'
    rw [List.getElem?_take] at hj
    split at hj
    · rename_i hji
      have := (g2 x hx hin).2 j m' hji hj
      simp [this]
    · cases hj
  · have hfin : Pn.sp σ.gv = 0 := by
      rcases hf with ⟨_, h⟩ | ⟨k, _, e, _⟩
      · exact Pn.sp_none h
      · omega
    rw [hfin, Int.zero_add] at hsum
    rw [← hsum]
    obtain ⟨o, eo⟩ : ∃ o, Pn.lds N (k.map (ow S)) = o := ⟨_, rfl⟩
    have hgv : (sg0 N (lays [] S) k).gv = (List.range o.length).map (fun h => o.getD h 0 - Pn.tgt o h) := by
      show (List.range N).map (fun h => Pn.cnt (k.map (ow (lays [] S))) h - Pn.tgt (Pn.lds N (k.map (ow (lays [] S)))) h) = _
      rw [eow, eo, ← eo, Pn.lds_len, eo]
      refine List.map_congr_left (fun q hq => ?_)
      have hq' := List.mem_range.1 hq
      have e : o.getD q 0 = Pn.cnt (k.map (ow S)) q := by
        rw [← eo]
        unfold Pn.lds
        rw [List.getD_eq_getElem?_getD, List.getElem?_map, List.getElem?_range hq']
        rfl
      rw [e]
    rw [eo] at ol ob os ⊢
    rw [hgv]
    have hexb : ∀ (q : Int), 0 ≤ q → ∀ l : List Int, (∀ y ∈ l, 0 ≤ y ∧ y ≤ 4096) → ex q l ≤ (l.length : Int) * 4096 := fun q hq l => by
      induction l with
      | nil => intro _; simp [ex]
      | cons y l ih2 =>
        intro h
        have h1 := h y (by simp)
        have h2 := ih2 (fun z hz => h z (by simp [hz]))
        rw [ex_cons, List.length_cons]
        have e : ((l.length + 1 : Nat) : Int) * 4096 = (l.length : Int) * 4096 + 4096 := by omega
        rw [e]
        split <;> omega
    have hq0 : 0 ≤ o.sum / (o.length : Int) := Int.ediv_nonneg (by rw [os]; omega) (by omega)
    have := hexb _ hq0 o ob
    have h := sp_few (o := o) (by omega) (fun x hx => (ob x hx).1) (by omega)
    rw [h, os, ol]
set_option maxRecDepth 100000 in
set_option maxHeartbeats 4000000 in
theorem fewest_walk (w : World) (n : Int) (ad : Option Addr) (cap : Nat) (M : List Sg) (a1 : Option Addr) (c1 : Nat) (ks : List Int) (most : Int) (hM : Sgs w (.slice ad M.length cap) M) (hnM : ad = none → cap = 0) (hlen : (M.length : Int) ≤ 5864062014634) (hk : Us w (.slice a1 ks.length c1) ks) (hnk : a1 = none → c1 = 0) (hkl : ks.length * 8 ≤ 140737488351232) (hkr : ∀ x ∈ ks, 0 ≤ x ∧ x < 18446744073709551616) :
    Calls Try.prog 7 #[.int .i64 n, .slice ad M.length cap, .slice a1 ks.length c1, .int .i64 most] w fun e w' => e = .returned (.bool true) ∧ Kp Nu w w' := by
  have mixed : Try.prog.follows .mixedOrders = true := by kernel_rfl
  have TA := tamed22 w n _ _ M ks hM hlen hk hkl hkr
  have HK := hide hkr
  clear hM hnM hlen hk hnk hkl hkr
  go_enter Try.func7, Try.ntmps7
  go_wp2_with fail
  refine TA.mono ?_; rintro e w1 ⟨hT, hk1⟩
  rcases hT with ⟨v1, v2, rfl⟩ | ⟨⟨hn, hgood, hml, hkl⟩, N, sv, kv, k', rfl, rfl, hs, hkv, hris, hmem, hk'l⟩
  · have H1 := hide hk1
    clear TA hk1
    go_wp2
    go_ret
    exact ⟨rfl, H1.out⟩
  have H1 := hide hk1
  by_cases q1 : (N : Int) > 10
  · have d1 : decide ((N : Int) > 10) = true := by simpa using q1
    clear TA hk1 hn hgood hml hkl hs hkv hris hmem hk'l q1
    go_wp2
    go_ret
    exact ⟨rfl, H1.out⟩
  have d1 : decide ((N : Int) > 10) = false := by simpa using q1
  by_cases q2 : most < 1
  · have d2 : decide (most < 1) = true := by simpa using q2
    clear TA hk1 hn hgood hml hkl hs hkv hris hmem hk'l q1 q2
    go_wp2
    go_ret
    exact ⟨rfl, H1.out⟩
  have d2 : decide (most < 1) = false := by simpa using q2
  by_cases q3 : most > 32
  · have d3 : decide (most > 32) = true := by simpa using q3
    clear TA hk1 hn hgood hml hkl hs hkv hris hmem hk'l q1 q2 q3
    go_wp2
    go_ret
    exact ⟨rfl, H1.out⟩
  have d3 : decide (most > 32) = false := by simpa using q3
  have hN1 : 1 ≤ N := by omega
  have hN16 : N ≤ 16 := by omega
  have hk4 : k'.length ≤ 4096 := by omega
  obtain ⟨hgS, hbS⟩ := good_tmd hgood hN1 hN16
  obtain ⟨S, eS⟩ : ∃ S, M.map (tmd N) = S := ⟨_, rfl⟩
  have hSl : S.length = M.length := by rw [← eS, List.length_map]
  rw [eS] at hgS hbS hs
  have hk'r : ∀ x ∈ k', 0 ≤ x ∧ x < 18446744073709551616 := fun x hx => HK.out x (hmem x hx)
  have hLB : LayB (N : Int) S k' := by rw [← eS]; exact layB_tmd hgood hN1 hN16 hml hris
  have hSgs : Sgs w1 sv S := by
    refine Sgs.of_own (B := w.heap.size) (by rw [hSl]; exact hs) (fun s hs' => ?_)
    have h1 := cov_mem hgS.cov s hs'
    have h2 := hgS.hs s hs'
    exact ⟨by omega, by omega, by omega, by omega, h2.1, by omega⟩
  have hUs : Us w1 kv k' := Us.of_own hkv
  have CO := counted23 w1 N sv kv S k' hSgs hgS.cov hbS (by omega) hUs hk'r hk4 hN16
  obtain ⟨sa, sc, esv⟩ := own_slice hs
  obtain ⟨ka, kc, ekv⟩ := own_slice hkv
  have hnk : ∀ m c, kv = .slice none m c → c = 0 := fun m c e => by
    rcases hkv.2 with ⟨e2, _⟩ | ⟨g, cp, cur, e2, _⟩
    · rw [e2] at e; cases e; rfl
    · rw [e2] at e; cases e
  have HA := hide (And.intro hSgs (And.intro hUs (And.intro hgS (And.intro hbS (And.intro hk'r (And.intro hLB (And.intro hSl (And.intro hris (And.intro hnk hml)))))))))
  obtain ⟨KL, eKL⟩ : ∃ KL, k'.length = KL := ⟨_, rfl⟩
  obtain ⟨SL, eSL⟩ : ∃ SL, M.length = SL := ⟨_, rfl⟩
  rw [eKL] at ekv hk4
  rw [eSL] at esv
  subst esv
  subst ekv
  have HKL := hide (And.intro eKL eSL)
  have hNI1 : (1 : Int) ≤ (N : Int) := by omega
  have hNI : (N : Int) ≤ 10 := by omega
  have hm1 : 1 ≤ most := by omega
  have hm32 : most ≤ 32 := by omega
  have hKI : (KL : Int) ≤ 4096 := by omega
  clear TA hk1 hn hgood hml hkl hs hkv hris hmem hk'l q1 q2 q3 hgS hbS eS hSl hk'r hLB hSgs hUs hnk eKL eSL
  go_wp2_with fail
  refine CO.mono ?_; rintro e w2 ⟨bb, rfl, ho2, hk2⟩
  obtain ⟨hSgs, hUs, hgS, hbS, hk'r, hLB, hSl, hris, hnk, hml⟩ := HA.out
  have MO := moves24 w2 (N : Int) most _ _ S k' (hSgs.nu hk2) (by omega) (hUs.nu hk2) (by have := HKL.out.1; omega) hk'r hnk
  have H2 := hide (And.intro ho2 hk2)
  clear CO ho2 hk2 hSgs hUs hgS hbS hk'r hLB hSl hris hnk hml
  go_wp2_with fail
  refine MO.mono ?_; rintro e w3 ⟨v, c, rfl, hMo, hk3⟩
  have hMo2 : c = 0 ∧ ∃ ms σ, Stps k' most (sg0 N (lays [] S) k') ms σ ∧ Fin σ ∧ Mvs w3 v ms ∧ ms.length ≤ 4096 := by
    rcases hMo with ⟨h, _⟩ | ⟨_, h, _⟩ | ⟨_, _, e, N', eN', ms, σ, h1, h2, h3, h4⟩
    · exact absurd ⟨⟨hNI1, by omega⟩, hm1, hm32⟩ h
    · exact absurd HA.out.2.2.2.2.2.1 h
    · have e3 : N = N' := by omega
      subst e3
      exact ⟨e, ms, σ, h1, h2, h3, h4⟩
  obtain ⟨rfl, ms, σ, hst, hfin, hMv, hms4⟩ := hMo2
  have hFw := fw_of HA.out.2.2.1 HA.out.2.2.2.1 hN1 hN16 HA.out.2.2.2.2.2.2.2.1 HA.out.2.2.2.2.1 (by have := HKL.out.1; omega) hm1 hst hfin
  obtain ⟨va, vc, ev, hdm⟩ := id hMv
  clear hdm
  obtain ⟨ML, eML⟩ : ∃ ML, ms.length = ML := ⟨_, rfl⟩
  rw [eML] at ev hms4
  subst ev
  have NU := Pn.num12 w3 0
  have H3 := hide (And.intro hMv (And.intro hFw (And.intro hk3 eML)))
  have hMLI : (ML : Int) ≤ 4096 := by omega
  clear MO hMo hk3 hst hfin hMv hFw eML
  go_wp2_with fail
  refine NU.mono ?_; rintro e w4 ⟨rfl, hw⟩
  obtain rfl := hw.symm
  clear NU
  obtain ⟨z0, hzi, hz0, hz1, hz2⟩ := info_parts info4z
  go_wp2_with (at_make; refine wpList_make_full _ rfl _ _ 55 rfl w3.heap.size 4 z0 _ 1 Try.underlying55 hzi hz0 hz1 _ _ _ _ KL rfl rfl rfl rfl (by rw [hz2]; omega) (by unfold maxLen; omega) (Nat.le_refl _) ?_; intro w5 hrow5 hgr5)
  have k35 : Kp Nu w3 w5 := (Kp.of_grown hgr5).mono (T := Nu) (fun _ _ e => by cases e)
  have hz5 := zero_bool k' (fun x => (ms.take 0).any (fun m => inr m x)) (fun x => by simp)
  rw [HKL.out.1] at hz5
  rw [hz5] at hrow5
  have H5 := hide (And.intro hrow5 k35)
  clear hrow5 hgr5 k35 hz5
  go_wp2
  go_loopw [16, 17] (fun uv iv wr => ∃ (i : Nat), uv = .int .i64 (((ms.take i).map (·.n)).sum) ∧ iv = .int .i64 (i : Int) ∧ i ≤ ML ∧ Hid (wr.ownsRow w3.heap.size 4 1 (.slice (some ⟨w3.heap.size, 0, none⟩) KL KL) KL (k'.map (fun x => Value.bool ((ms.take i).any (fun m => inr m x)))) ∧ Kp Nu w3 wr)) (fun _ iv _ => ML - (intOf iv).toNat)
  case atStart => exact ⟨0, by simp, rfl, Nat.zero_le _, H5⟩
  case round =>
    obtain ⟨i, rfl, rfl, hi, hI⟩ := hrel
    have hi0 : (0 : Int) ≤ (i : Int) := by omega
    obtain ⟨wl, ewl⟩ : ∃ wl : World, wl = wr := ⟨_, rfl⟩
    subst ewl
    have hsu := sum_up (b := 32) (by omega) (o := (ms.take i).map (·.n)) (fun x hx => by
      obtain ⟨m, hm, rfl⟩ := List.mem_map.1 hx
      obtain ⟨j, hj⟩ := List.getElem?_of_mem (List.mem_of_mem_take hm)
      have g := (H3.out.2.1.g j m hj).1
      have := g.n1
      have := g.nm
      omega)
    rw [List.length_map, List.length_take] at hsu
    obtain ⟨SU, eSU⟩ : ∃ SU, ((ms.take i).map (·.n)).sum = SU := ⟨_, rfl⟩
    rw [eSU] at hsu ⊢
    have hsu0 := hsu.1
    have hsu1 : SU ≤ 131072 := by omega
    have HSU := hide eSU
    clear hsu eSU
    by_cases hlt : i < ML
    · have hltI : (i : Int) < (ML : Int) := by omega
      have eti : (i : Int).toNat = i := by omega
      obtain ⟨m, hm⟩ : ∃ m, ms[i]? = some m := ⟨_, List.getElem?_eq_getElem (by rw [H3.out.2.2.2]; exact hlt)⟩
      obtain ⟨hg, hgone⟩ := H3.out.2.1.g i m hm
      have hMw := H3.out.1
      obtain ⟨ma, mo, hva, _⟩ := hMw.at_ hm
      subst hva
      obtain ⟨A, eA⟩ : ∃ A : Int → Bool, A = fun x => (ms.take i).any (fun m => inr m x) := ⟨_, rfl⟩
      have HG := hide (And.intro hm (And.intro hg (And.intro hgone eA)))
      have hn1 := hg.n1
      have hnm := hg.nm
      have hf0 := hg.f0
      have hf1 := hg.f1
      have ht0 := hg.t0
      have ht1 := hg.t1
      clear hm hg hgone hMw eA
      go_wp2
      go_loopw [18, 19] (fun nv xv wr => ∃ (j : Nat), nv = .int .i64 ((((k'.take j).countP (inr m) : Nat)) : Int) ∧ xv = .int .i64 (j : Int) ∧ j ≤ KL ∧ Hid (wr.ownsRow w3.heap.size 4 1 (.slice (some ⟨w3.heap.size, 0, none⟩) KL KL) KL (gis A (inr m) k' j) ∧ Kp Nu w3 wr)) (fun _ xv _ => KL - (intOf xv).toNat)
      case atStart => exact ⟨0, by simp, rfl, Nat.zero_le _, hide ⟨by rw [gis_zero, HG.out.2.2.2]; exact hI.out.1, hI.out.2⟩⟩
      case round =>
        obtain ⟨j, rfl, rfl, hj, hJ⟩ := hrel
        have hj0 : (0 : Int) ≤ (j : Int) := by omega
        obtain ⟨C, eC⟩ : ∃ C, (k'.take j).countP (inr m) = C := ⟨_, rfl⟩
        have hCl : C ≤ j := by
          rw [← eC]
          exact Nat.le_trans List.countP_le_length (by rw [List.length_take]; omega)
        rw [eC]
        obtain ⟨hrow, kk⟩ := hJ.out
        have hMr := H3.out.1.nu kk
        obtain ⟨ma', mo', hva, hat⟩ := hMr.at_ HG.out.1
        simp only [Option.some.injEq, Addr.mk.injEq, and_true] at hva
        obtain ⟨rfl, rfl⟩ := hva
        obtain ⟨p0, p1, p2, p3, p4, _⟩ := hat
        by_cases hjl : j < KL
        · have hjlI : (j : Int) < (KL : Int) := by omega
          have etj : (j : Int).toNat = j := by omega
          obtain ⟨x, hx⟩ : ∃ x, k'[j]? = some x := ⟨_, List.getElem?_eq_getElem (by rw [HKL.out.1]; exact hjl)⟩
          have hku := (HA.out.2.1.nu H2.out.2).nu (H3.out.2.2.1.andNu kk)
          obtain ⟨ax, cx, eax, _, hkat⟩ := hku
          simp only [Value.slice.injEq] at eax
          obtain ⟨rfl, eax2, ecx⟩ := eax
          obtain ⟨ba, hba, y0⟩ := hkat j x hx
          subst hba
          have etk : k'.take (j + 1) = k'.take j ++ [x] := by rw [List.take_add_one, hx]; rfl
          have hgl : (gis A (inr m) k' j).length = KL := by rw [gis_len, HKL.out.1]
          obtain ⟨z1, z2⟩ := bool_at hrow hgl (gis_get A (inr m) hx)
          have hst := gis_step A (inr m) hx
          have hsame := gis_same A (inr m) hx
          have hput := own_put hrow j (.bool true) (by rw [hgl]; exact hjl)
          have HR := hide (And.intro hrow (And.intro kk (And.intro etk (And.intro hst (And.intro hsame (And.intro hput (And.intro eC hx)))))))
          have hxm := List.mem_of_getElem? hx
          by_cases b1 : m.lo ≤ x
          · have e1 : decide (x ≥ m.lo) = true := by simpa using b1
            by_cases b2 : x ≤ m.hi
            · have e2 : decide (x ≤ m.hi) = true := by simpa using b2
              have hin : inr m x = true := by simp [inr, b1, b2]
              have hAx : A x = false := by rw [HG.out.2.2.2]; exact HG.out.2.2.1 x hxm hin
              rw [hAx] at z1
              have HN : Hid ((k'.take (j + 1)).countP (inr m) = C + 1) := hide (by rw [etk, List.countP_append, eC]; simp [hin])
              have HO : Hid ((gis A (inr m) k' j).set j (.bool true) = gis A (inr m) k' (j + 1)) := hide (by rw [← hst, hAx, hin]; rfl)
              clear hrow kk hMr hkat eax2 ecx hx etk hgl hst hsame hput eC hxm b1 b2 hin hAx
              go_wp2_with fail
              go_quiet (fail)
              go_wp2
              refine ⟨⟨j + 1, by rw [HN.out]; go_num, by go_num, by omega, hide ⟨?_, (HR.out.2.1.andNu (kp_dn wr _)).andSet _ _ (.inl (Nat.le_refl _))⟩⟩, by simp [intOf]; omega⟩
              rw [← HO.out]
              exact HR.out.2.2.2.2.2.1
            · have e2 : decide (x ≤ m.hi) = false := by simpa using b2
              have hin : inr m x = false := by simp [inr]; omega
              have HN : Hid ((k'.take (j + 1)).countP (inr m) = C) := hide (by rw [etk, List.countP_append, eC]; simp [hin])
              have HO : Hid (gis A (inr m) k' j = gis A (inr m) k' (j + 1)) := hide (hsame hin)
              clear hrow kk hMr hkat eax2 ecx hx etk hgl hst hsame hput eC hxm b1 b2 hin
              go_wp2_with fail
              go_quiet (fail)
              go_wp2
              refine ⟨⟨j + 1, by rw [HN.out], by go_num, by omega, hide ⟨?_, HR.out.2.1.andNu (kp_dn wr _)⟩⟩, by simp [intOf]; omega⟩
              rw [← HO.out]
              exact own_dn HR.out.1 _
          · have e1 : decide (x ≥ m.lo) = false := by simpa using b1
            have hin : inr m x = false := by simp [inr]; omega
            have HN : Hid ((k'.take (j + 1)).countP (inr m) = C) := hide (by rw [etk, List.countP_append, eC]; simp [hin])
            have HO : Hid (gis A (inr m) k' j = gis A (inr m) k' (j + 1)) := hide (hsame hin)
            clear hrow kk hMr hkat eax2 ecx hx etk hgl hst hsame hput eC hxm b1 hin
            go_wp2_with fail
            go_quiet (fail)
            go_wp2
            refine ⟨⟨j + 1, by rw [HN.out], by go_num, by omega, hide ⟨?_, HR.out.2.1.andNu (kp_dn wr _)⟩⟩, by simp [intOf]; omega⟩
            rw [← HO.out]
            exact own_dn HR.out.1 _
        · have hge : ¬ (j : Int) < (KL : Int) := by omega
          obtain rfl : KL = j := by omega
          have eCn : (C : Int) = m.n := by
            rw [← HG.out.2.1.cnt, ← eC, List.take_of_length_le (by rw [HKL.out.1]; exact Nat.le_refl _)]
          rw [eCn]
          have f1 : (m.n != m.n) = false := by simp
          have f2 : decide (m.n < 1) = false := by simp; omega
          have f3 : decide (m.n > most) = false := by simp; omega
          have f4 : decide (m.f ≥ (N : Int)) = false := by simp; omega
          have f5 : decide (m.t ≥ (N : Int)) = false := by simp; omega
          have f6 : IntKind.i64.wrap m.f = m.f := by rw [IntKind.wrap_i64]; omega
          have f7 : IntKind.i64.wrap m.t = m.t := by rw [IntKind.wrap_i64]; omega
          have f8 : IntKind.i64.wrap (SU + m.n) = SU + m.n := by rw [IntKind.wrap_i64]; omega
          have HE : Hid (((ms.take (i + 1)).map (·.n)).sum = SU + m.n) := hide (by
            rw [List.take_add_one, HG.out.1, Option.toList_some, List.map_append, List.sum_append, HSU.out]
            simp)
          have HO : Hid (wr.ownsRow w3.heap.size 4 1 (.slice (some ⟨w3.heap.size, 0, none⟩) KL KL) KL (k'.map (fun x => Value.bool ((ms.take (i + 1)).any (fun m => inr m x)))) ∧ Kp Nu w3 wr) := hide ⟨by
            have e := gis_all A (inr m) k'
            rw [HKL.out.1] at e
            rw [e] at hrow
            have e2 : k'.map (fun x => Value.bool ((ms.take (i + 1)).any (fun m => inr m x))) = k'.map (fun x => Value.bool (A x || inr m x)) := List.map_congr_left (fun x _ => by
              rw [List.take_add_one, HG.out.1, Option.toList_some, List.any_append, HG.out.2.2.2]
              simp)
            rw [e2]
            exact hrow, kk⟩
          clear hrow kk hMr eC eCn
          go_wp2
          exact ⟨⟨i + 1, by rw [HE.out], by go_num, by omega, HO⟩, by simp [intOf]; omega⟩
    · have hge : ¬ (i : Int) < (ML : Int) := by omega
      obtain rfl : ML = i := by omega
      obtain ⟨hrow, kk⟩ := hI.out
      obtain ⟨hMv, hFw, hk3, eML⟩ := H3.out
      have eS : SU = few ((KL : Int) / (N : Int)) (Pn.lds N (k'.map (ow S))) ((KL : Int) % (N : Int)).toNat := by
        rw [← HSU.out, List.take_of_length_le (by rw [eML]; exact Nat.le_refl _), hFw.sum, HKL.out.1]
      have m1 := Int.emod_nonneg (KL : Int) (by omega : (N : Int) ≠ 0)
      have m2 := Int.emod_lt_of_pos (KL : Int) (by omega : (0 : Int) < (N : Int))
      have m3 := Int.ediv_nonneg (by omega : (0 : Int) ≤ (KL : Int)) (by omega : (0 : Int) ≤ (N : Int))
      have m4 := Int.ediv_le_self (N : Int) (by omega : (0 : Int) ≤ (KL : Int))
      obtain ⟨R, eR⟩ : ∃ R : Nat, (KL : Int) % (N : Int) = (R : Int) := ⟨((KL : Int) % (N : Int)).toNat, by omega⟩
      obtain ⟨q, eq⟩ : ∃ q, (KL : Int) / (N : Int) = q := ⟨_, rfl⟩
      rw [eR, eq, Int.toNat_natCast] at eS
      rw [eR] at m1 m2
      rw [eq] at m3 m4
      have n1 : Int.tdiv (KL : Int) (N : Int) = q := by rw [Int.tdiv_eq_ediv_of_nonneg (by omega)]; exact eq
      have n2 : Int.tmod (KL : Int) (N : Int) = (R : Int) := by rw [Int.tmod_eq_emod_of_nonneg (by omega)]; exact eR
      have n3 : IntKind.i64.wrap q = q := by rw [IntKind.wrap_i64]; omega
      have n4 : IntKind.i64.wrap (R : Int) = (R : Int) := by rw [IntKind.wrap_i64]; omega
      have n5 : ((N : Int) == 0) = false := by simp; omega
      have n6 : ¬ N = 0 := by omega
      have hob : wl.drew.ownsRow w1.heap.size 3 1 (.slice (some ⟨bb, 0, none⟩) N N) N (Pn.ics (Pn.lds N (k'.map (ow S)))) := own_keep H2.out.1 (fun g e => (hk3.andNu kk).drew.block g (own_lt H2.out.1 e) (fun h => h))
      have FE := fewest25 q (by omega) N hN16 N 0 R wl.drew (some ⟨bb, 0, none⟩) N _ (ns_of hob (Pn.lds_len _ _)) (Pn.lds_len _ _) (by omega) (by omega) (by omega) hFw.ob
      rw [List.drop_zero, ← eS] at FE
      have e0 : ((0 : Nat) : Int) = 0 := rfl
      rw [e0] at FE
      have HKK := hide (((H1.out.andNu H2.out.2).andNu hk3).andNu kk)
      clear hrow kk hMv hFw hk3 eML eS m1 m2 m3 m4 eR eq hob e0 hI
      go_wp2_with fail
      go_still_tail 9, mixed
      go_wp2_with fail
      refine FE.mono ?_; rintro e w6 ⟨rfl, hk6⟩
      have x9 : (SU == SU) = true := by simp
      have HK6 := hide ((HKK.out.drew).andNu hk6)
      clear FE hk6
      go_wp2
      go_ret
      exact ⟨rfl, HK6.out⟩
end Go.Proofs.Ytbifmcadllilhaa.Rg
