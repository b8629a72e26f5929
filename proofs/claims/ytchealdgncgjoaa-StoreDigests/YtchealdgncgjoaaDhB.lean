import Derived.Test.YtchealdgncgjoaaDhA
import Derived.BigQuiet
import Derived.Deep.QuietTactic
import Derived.Deep.RegionHeld3
import Derived.Deep.DeepCutAuto
namespace Go.Proofs.Ytchealdgncgjoaa.StU
open Go.RowKit Go.Proofs.Ytchealdgncgjoaa.St Go.Shelf
set_option linter.unusedVariables false
theorem pb_eq (k : Int) (ys : List Int) (h : ys.length ≤ 64) : Cd.pb k ys = Cd.be 8 k.toNat ++ [0] ++ [(ys.length : Int)] ++ ys := by
  have e : Cd.be 2 (ys.length % 65536) = [0, (ys.length : Int)] := by
    show [((ys.length % 65536 / 256 ^ 1 % 256 : Nat) : Int), ((ys.length % 65536 / 256 ^ 0 % 256 : Nat) : Int)] = _
    have h1 : ys.length % 65536 = ys.length := Nat.mod_eq_of_lt (by omega)
    rw [h1]
    have h2 : ys.length / 256 ^ 1 % 256 = 0 := by omega
    have h3 : ys.length / 256 ^ 0 % 256 = ys.length := by omega
    rw [h2, h3]; rfl
  unfold Cd.pb Cd.hd
  rw [e]; simp
theorem pbs_len : ∀ (A : List KV), (∀ m ∈ A, m.2.length ≤ 64) → (pbs A).length ≤ 74 * A.length
  | [], _ => by simp [pbs]
  | a :: A, h => by
    have h1 := h a (by simp)
    have h2 := pbs_len A (fun m hm => h m (by simp [hm]))
    show (Cd.pb a.1 a.2 ++ pbs A).length ≤ _
    rw [List.length_append, List.length_cons]
    unfold Cd.pb
    rw [List.length_append, Cd.hd_length]; omega
theorem own_app {w3 wr w' : World} {B n : Nat} {ao : Option Addr} {ac : Nat} {Q : List Int} {o : Obj} (h : wr.ownsRow B 5 1 (.slice ao n ac) n (cs Q)) (hB : w3.heap.size = B) (k : Kp Nu w3 wr) (g : (wr.alloc o).grownBy w' (Value.slice ao n ac).ownBlock) : Kp Nu w3 w' :=
  (k.andAlloc _).trans (Kp.of_grown g) (fun i hi e => by
    have := (h.lt i e.symm).1
    omega)
theorem own_app0 {w3 wr w' : World} {B n : Nat} {ao : Option Addr} {ac : Nat} {Q : List Int} (h : wr.ownsRow B 5 1 (.slice ao n ac) n (cs Q)) (hB : w3.heap.size = B) (k : Kp Nu w3 wr) (g : wr.grownBy w' (Value.slice ao n ac).ownBlock) : Kp Nu w3 w' :=
  k.trans (Kp.of_grown g) (fun i hi e => by
    have := (h.lt i e.symm).1
    omega)
theorem cs_append (a b : List Int) : cs (a ++ b) = cs a ++ cs b := by simp [cs]
set_option maxRecDepth 100000 in
set_option maxHeartbeats 4000000 in
theorem digests_walk (w : World) (v0 : Value) (S : List Pg) (lo hi : Int) (hS : Wp w v0 S) (hsl : S.length ≤ 4398046511104) :
    Calls Try.prog 9 #[v0, .int .u64 lo, .int .u64 hi] w fun e w' => e = .returned (.bool true) ∧ Kp Nu w w' := by
  have mixed : Try.prog.follows .mixedOrders = true := by kernel_rfl
  obtain ⟨ad, cap, rfl, hc⟩ := hS
  obtain ⟨N, eN⟩ : ∃ N, S.length = N := ⟨_, rfl⟩
  rw [eN] at hsl ⊢
  have HS : Hid (∀ W, Kp Nu w W → ∀ (i : Nat) (s : Pg), S[i]? = some s → ∃ b off, ad = some ⟨b, off, none⟩ ∧ W.cell? ⟨b, off + i * 2, none⟩ = some (.int .u64 s.k) ∧ W.cell? ⟨b, off + i * 2 + 1, none⟩ = some (.slice s.v.a s.v.n s.v.c) ∧ Rd W (.slice s.v.a s.v.n s.v.c) s.ys ∧ Byt s.ys ∧ 0 ≤ s.k ∧ s.k ≤ 18446744073709551615 ∧ s.ys.length ≤ 140737488355328) := hide (fun W k i s h => by
    obtain ⟨b, off, e, c0, c1, c2, c3⟩ := hc i s h
    exact ⟨b, off, e, cell_nu c0 k, cell_nu c1 k, c2.nu k, c3⟩)
  have HN := hide (And.intro hsl eN)
  have NA := new_ok w 1000 (by omega) (by omega)
  have NB : ∀ W, Kp Nu w W → Calls Try.prog 45 #[.int .i64 1000] W fun e w' => ∃ sb mb, e = .returned (.tuple #[.pointer (some ⟨sb, 0, none⟩), .int .i64 0]) ∧ Hid (W.heap.size ≤ sb ∧ W.heap.size ≤ mb ∧ Sh w' sb mb 1000 .nil [] ∧ Kp Nu W w') := fun W k => by
    refine (new_ok W 1000 (by omega) (by omega)).mono ?_
    rintro e w' ⟨sb, mb, h1, h2, h3, h4, h5⟩
    exact ⟨sb, mb, h1, h2, h3, h4, h5⟩
  clear hc hsl eN
  go_enter Try.func9, Try.ntmps9
  go_wp2_with (go_at_call 45; refine NA.mono ?_; rintro e w1 ⟨sa, ma, rfl, hsa, hma, hA1, k1⟩; clear NA)
  have NB1 := NB w1 k1
  clear NB
  go_wp2_with (go_at_call 45; refine NB1.mono ?_; rintro e w2 ⟨sb, mb, rfl, HB⟩)
  have HA : Hid (Sh w2 sa ma 1000 .nil [] ∧ Sh w2 sb mb 1000 .nil [] ∧ Kp Nu w w2 ∧ w.heap.size ≤ sa ∧ w.heap.size ≤ ma ∧ w.heap.size ≤ sb ∧ w.heap.size ≤ mb ∧ sb ≠ sa ∧ mb ≠ ma) := by
    obtain ⟨b1, b2, b3, b4⟩ := HB.out
    have hz := k1.size
    have l1 := blk_lt hA1.box
    have l2 := hA1.m.lt
    exact ⟨hA1.nu b4, b3, k1.andNu b4, hsa, hma, by omega, by omega, by omega, by omega⟩
  clear hsa hma hA1 k1 HB NB1
  go_loopw [11] (fun it wr => ∃ k : Nat, it = .int .i64 (k : Int) ∧ k ≤ N ∧ Hid (∃ ta Ma, Sh wr sa ma 1000 ta Ma ∧ Sh wr sb mb 1000 .nil [] ∧ (∀ x, hs x Ma = true → ∃ s ∈ S, s.k = x) ∧ Ma.length ≤ k ∧ Kp Nu w wr)) (fun it _ => N - (intOf it).toNat)
  case atStart => exact ⟨0, rfl, Nat.zero_le _, .nil, [], HA.out.1, HA.out.2.1, (fun x h => by simp [hs] at h), Nat.le_refl _, HA.out.2.2.1⟩
  case round =>
    obtain ⟨k, rfl, hk, HR⟩ := hrel
    obtain ⟨ta, Ma, hsh, hshb, hkeys, hlen, kwr⟩ := HR.out
    by_cases hlt : k < N
    · obtain ⟨s, hsi⟩ : ∃ s, S[k]? = some s := ⟨_, List.getElem?_eq_getElem (by rw [HN.out.2]; exact hlt)⟩
      have hsS := List.mem_of_getElem? hsi
      obtain ⟨b, off, ead, c0, c1, hrd, hby, hk0, hk1, hyl⟩ := HS.out wr kwr k s hsi
      obtain ⟨sk, ⟨sa', sn, sc⟩, ys⟩ := s
      have HSC : Hid (∀ W, Kp Nu w W → W.cell? ⟨b, off + k * 2, none⟩ = some (.int .u64 sk) ∧ W.cell? ⟨b, off + k * 2 + 1, none⟩ = some (.slice sa' sn sc)) := hide (fun W q => by
        obtain ⟨b', off', e', d0, d1, _⟩ := HS.out W q k _ hsi
        rw [ead] at e'; cases e'
        exact ⟨d0, d1⟩)
      subst ead
      have GA := get46 hsh sk
      have CC : ∀ W, Kp Nu wr W → Calls Try.prog 48 #[.slice sa' sn sc] W fun e w' => ∃ v : Sv, e = .returned (.slice v.a v.n v.c) ∧ Rd w' (.slice v.a v.n v.c) ys ∧ Kp Nu wr w' := fun W q => by
        refine (clone48 W _ ys (hrd.nu q) hyl).mono ?_
        rintro e w' ⟨v, e1, e2, e3⟩
        exact ⟨v, e1, Rd.of_own e2, q.andNu e3⟩
      have SC : (k : Int) < 1000 → ∀ W (v : Sv), Kp Nu wr W → Rd W (.slice v.a v.n v.c) ys → Calls Try.prog 47 #[.pointer (some ⟨sa, 0, none⟩), .int .u64 sk, .slice v.a v.n v.c] W fun e w' => ∃ b g, e = .returned (.tuple #[.bool b, .int .i64 g]) ∧ Hid (∃ ta Ma, Sh w' sa ma 1000 ta Ma ∧ Sh w' sb mb 1000 .nil [] ∧ (∀ x, hs x Ma = true → ∃ s ∈ S, s.k = x) ∧ Ma.length ≤ k + 1) ∧ Kp Nu w w' := fun hlk W v q hv => by
        refine (set_in2 (hsh.nu q) sk hk0 hk1 _ ys hv hby (by omega)).mono ?_
        rintro e w' ⟨⟨b, g, e1⟩, ⟨t', M', e2, e3, e4⟩, e5⟩
        refine ⟨b, g, e1, ⟨t', M', e2, (hshb.nu q).beside (hsh.nu q) e5 HA.out.2.2.2.2.2.2.2.1 HA.out.2.2.2.2.2.2.2.2, fun x hx => ?_, by omega⟩, kp_sm2 (kwr.andNu q) HA.out.2.2.2.1 HA.out.2.2.2.2.1 e5⟩
        rcases e4 x hx with h | h
        · exact hkeys x h
        · exact ⟨_, hsS, h⟩
      have hltI : (k : Int) < (N : Int) := by omega
      have hk00 : (0 : Int) ≤ (k : Int) := by omega
      have hwk : wrap64 ((k : Int) + 1) = ((k + 1 : Nat) : Int) := by have := HN.out.1; unfold wrap64; omega
      have HW := hide (And.intro hlt hwk)
      have HST : Hid (∀ W, Kp Nu wr W → ∃ ta Ma, Sh W sa ma 1000 ta Ma ∧ Sh W sb mb 1000 .nil [] ∧ (∀ x, StU.hs x Ma = true → ∃ s ∈ S, s.k = x) ∧ Ma.length ≤ k + 1 ∧ Kp Nu w W) := hide (fun W q => ⟨ta, Ma, hsh.nu q, hshb.nu q, hkeys, by omega, kwr.andNu q⟩)
      generalize StU.hs sk Ma = th at *
      generalize gtM sk Ma = gv at *
      clear hsi hsS hsh hshb hkeys hlen hrd hby hk0 hk1 hyl hwk HR hlt hk
      cases th with
      | true =>
        clear CC SC HSC
        go_wp2_with (go_at_call 46; refine GA.mono ?_; rintro e w3 ⟨⟨va, vn, vc⟩, rfl, o3, k3⟩)
        exact ⟨⟨k + 1, by rw [HW.out.2], HW.out.1, hide (HST.out _ k3)⟩, lt_mi HW.out.2 HW.out.1⟩
      | false =>
        by_cases hkk : (k : Int) < 1000
        · have SC := SC hkk
          go_wp2_with (go_at_call 46; refine GA.mono ?_; rintro e w3 ⟨⟨va, vn, vc⟩, rfl, o3, k3⟩)
          clear o3
          go_region_held3 (fun W => W.cell? ⟨b, off + k * 2, none⟩ = some (.int .u64 sk) ∧ W.cell? ⟨b, off + k * 2 + 1, none⟩ = some (.slice sa' sn sc)) (first | (refine HSC.out _ ?_; first | assumption | (apply Kp.drew; assumption); done) | (refine HSC.out _ (kwr.andNu ?_); repeat (first | assumption | exact Kp.refl _ _ | apply Kp.drew)))
            (first
              | (go_at_call 48; refine (CC _ ?_).mono ?_; (repeat (first | assumption | exact Kp.refl _ _ | apply Kp.drew)); rintro e w4 ⟨v, rfl, hv4, k4⟩)
              | (go_at_call 47; refine (SC _ v ?_ ?_).mono ?_; assumption; assumption; rintro e w5 ⟨bb, gg, rfl, h5, k5⟩))
          have HF : Hid (∃ ta Ma, Sh w5 sa ma 1000 ta Ma ∧ Sh w5 sb mb 1000 .nil [] ∧ (∀ x, hs x Ma = true → ∃ s ∈ S, s.k = x) ∧ Ma.length ≤ k + 1 ∧ Kp Nu w w5) := by
            obtain ⟨ta, Ma, e1, e2, e3, e4⟩ := h5.out
            exact ⟨ta, Ma, e1, e2, e3, e4, k5⟩
          clear h5 CC SC HSC GA
          go_wp2
          exact ⟨⟨k + 1, by go_num, HW.out.1, HF⟩, lt_mi (by omega) HW.out.1⟩
        · clear CC SC HSC
          go_wp2_with (go_at_call 46; refine GA.mono ?_; rintro e w3 ⟨⟨va, vn, vc⟩, rfl, o3, k3⟩)
          exact ⟨⟨k + 1, by rw [HW.out.2], HW.out.1, hide (HST.out _ k3)⟩, lt_mi HW.out.2 HW.out.1⟩
    · have hkN : k = N := by omega
      have HX : Hid (Sh wr sa ma 1000 ta Ma ∧ Sh wr sb mb 1000 .nil [] ∧ (∀ x, hs x Ma = true → ∃ s ∈ S, s.k = x) ∧ Kp Nu w wr) := ⟨hsh, hshb, hkeys, kwr⟩
      subst hkN
      have hnl : ¬ (k : Int) < (k : Int) := by omega
      clear hsh hshb hkeys hlen kwr HR hlt hk
      have hkw : wrap64 ((k : Int) - 1) = (k : Int) - 1 := by have := HN.out.1; unfold wrap64; omega
      go_wp2_with fail
      clear hkw
      obtain ⟨wA, ewA⟩ : ∃ wA : World, wA = wr := ⟨_, rfl⟩
      subst ewA
      go_loopw [14] (fun it wr => ∃ j : Nat, it = .int .i64 ((j : Int) - 1) ∧ j ≤ k ∧ Hid (∃ tb Mb, Sh wr sa ma 1000 ta Ma ∧ Sh wr sb mb 1000 tb Mb ∧ (∀ x, hs x Mb = true ↔ (hs x Ma = true ∧ ∃ i s, j ≤ i ∧ S[i]? = some s ∧ s.k = x)) ∧ (∀ x, hs x Mb = true → gtM x Mb = gtM x Ma) ∧ Kp Nu w wr)) (fun it _ => (intOf it + 1).toNat)
      case atStart =>
        refine ⟨k, rfl, Nat.le_refl _, .nil, [], HX.out.1, HX.out.2.1, fun x => ⟨fun h => by simp [hs] at h, fun ⟨_, i, s, h1, h2, _⟩ => ?_⟩, fun x h => by simp [hs] at h, HX.out.2.2.2⟩
        have := (List.getElem?_eq_some_iff.1 h2).1
        have := HN.out.2
        omega
      case round =>
        obtain ⟨j, rfl, hj, HR⟩ := hrel
        obtain ⟨tb, Mb, hshA, hshB, hkeyB, hvalB, kwr⟩ := HR.out
        cases j with
        | succ j =>
          rw [show ((j + 1 : Nat) : Int) - 1 = (j : Int) by omega]
          obtain ⟨s, hsi⟩ : ∃ s, S[j]? = some s := ⟨_, List.getElem?_eq_getElem (by rw [HN.out.2]; omega)⟩
          obtain ⟨b, off, ead, c0, c1, hrd, hby, hk0, hk1, hyl⟩ := HS.out wr kwr j s hsi
          have HSC : Hid (∀ W, Kp Nu w W → W.cell? ⟨b, off + j * 2, none⟩ = some (.int .u64 s.k)) := hide (fun W q => by
            obtain ⟨b', off', e', d0, d1, _⟩ := HS.out W q j _ hsi
            rw [ead] at e'; cases e'
            exact d0)
          subst ead
          have hg0 : (0 : Int) ≤ (j : Int) := by omega
          have hltI : (j : Int) < (k : Int) := by omega
          have hge : (0 : Int) ≤ (j : Int) := by omega
          have GA := get46 hshA s.k
          have hjw : wrap64 ((j : Int) - 1) = (j : Int) - 1 := by have := HN.out.1; unfold wrap64; omega
          have hms : (intOf (.int .i64 ((j : Int) - 1)) + 1).toNat < (intOf (.int .i64 (j : Int)) + 1).toNat := by
            show ((j : Int) - 1 + 1).toNat < ((j : Int) + 1).toNat
            omega
          have HW := hide (And.intro hj (And.intro hjw hms))
          cases hth : hs s.k Ma with
          | false =>
            rw [hth] at GA
            have HF : Hid (∀ W, Kp Nu wr W → ∃ tb Mb, Sh W sa ma 1000 ta Ma ∧ Sh W sb mb 1000 tb Mb ∧ (∀ x, hs x Mb = true ↔ (hs x Ma = true ∧ ∃ i s, j ≤ i ∧ S[i]? = some s ∧ s.k = x)) ∧ (∀ x, hs x Mb = true → gtM x Mb = gtM x Ma) ∧ Kp Nu w W) := hide (fun W q => by
              refine ⟨tb, Mb, hshA.nu q, hshB.nu q, fun x => ⟨fun h => ?_, fun ⟨h1, i, s', h2, h3, h4⟩ => ?_⟩, hvalB, kwr.andNu q⟩
              · obtain ⟨h1, i, s', h2, h3, h4⟩ := (hkeyB x).1 h
                exact ⟨h1, i, s', by omega, h3, h4⟩
              · refine (hkeyB x).2 ⟨h1, i, s', ?_, h3, h4⟩
                rcases Nat.lt_or_ge j i with hlt | hge
                · omega
                · have : i = j := by omega
                  subst this
                  rw [hsi] at h3; cases h3
                  rw [← h4, hth] at h1; cases h1)
            generalize s.k = sk at *
            clear hsi hrd hby hk0 hk1 hyl hshA hshB hkeyB hvalB HR hj hth HSC hjw hms
            go_wp2_with (go_at_call 46; refine GA.mono ?_; rintro e w3 ⟨⟨va, vn, vc⟩, rfl, o3, k3⟩)
            exact ⟨⟨j, by rw [HW.out.2.1], by have := HW.out.1; omega, hide (HF.out _ k3)⟩, by first | exact HW.out.2.2 | (rw [HW.out.2.1]; exact HW.out.2.2)⟩
          | true =>
            rw [hth] at GA
            obtain ⟨m, hm, em, gm⟩ := hshA.ris.at_key hth
            obtain ⟨p, _, hfv⟩ := hshA.vs.mem m hm
            have hy64 : (gtM s.k Ma).length ≤ 64 := by rw [gm]; exact hfv.2.2.1
            have hbyt : Byt (gtM s.k Ma) := by rw [gm]; exact hfv.2.2.2.2.2
            have hr : hs s.k Mb = true ∨ (Mb.length : Int) < 1000 := by
              cases hb : hs s.k Mb with
              | true => exact .inl rfl
              | false =>
                right
                have h1 := sub_len hshA.ris (ris_put hshB.ris s.k []) (fun b hb' => by
                  have h2 := ((ris_put hshB.ris s.k []).get hb').1
                  rw [hs_put] at h2
                  rcases Bool.or_eq_true _ _ ▸ h2 with h | h
                  · exact ((hkeyB _).1 h).1
                  · rw [← (by simpa using h : s.k = b.1)]; exact hth)
                rw [putM_length, hb] at h1
                have := hshA.lm
                simp at h1; omega
            have SB : ∀ W (v : Sv), Kp Nu wr W → W.ownsRow wr.heap.size 5 1 (.slice v.a v.n v.c) (gtM s.k Ma).length (cs (gtM s.k Ma)) → Calls Try.prog 47 #[.pointer (some ⟨sb, 0, none⟩), .int .u64 s.k, .slice v.a v.n v.c] W fun e w' => ∃ bb, e = .returned (.tuple #[.bool bb, .int .i64 0]) ∧ Hid (∃ tb Mb, Sh w' sa ma 1000 ta Ma ∧ Sh w' sb mb 1000 tb Mb ∧ (∀ x, hs x Mb = true ↔ (hs x Ma = true ∧ ∃ i s, j ≤ i ∧ S[i]? = some s ∧ s.k = x)) ∧ (∀ x, hs x Mb = true → gtM x Mb = gtM x Ma) ∧ Kp Nu w w') := fun W v q ho => by
              refine (set_ok (hshB.nu q) s.k hk0 hk1 _ _ (Rd.of_own ho) hy64 hbyt hr).mono ?_
              rintro e w' ⟨e1, ⟨v', _, h2⟩, k2⟩
              refine ⟨_, e1, _, _, (hshA.nu q).beside (hshB.nu q) k2 (fun e => HA.out.2.2.2.2.2.2.2.1 e.symm) (fun e => HA.out.2.2.2.2.2.2.2.2 e.symm), h2, fun x => ⟨fun h => ?_, fun ⟨h1, i, s', h2, h3, h4⟩ => ?_⟩, fun x hx => ?_, kp_sm2 (kwr.andNu q) HA.out.2.2.2.2.2.1 HA.out.2.2.2.2.2.2.1 k2⟩
              · rw [hs_put] at h
                rcases Bool.or_eq_true _ _ ▸ h with h | h
                · obtain ⟨h1, i, s', h2, h3, h4⟩ := (hkeyB x).1 h
                  exact ⟨h1, i, s', by omega, h3, h4⟩
                · have h : s.k = x := by simpa using h
                  exact ⟨by rw [← h]; exact hth, j, s, Nat.le_refl _, hsi, h⟩
              · rw [hs_put, Bool.or_eq_true]
                rcases Nat.lt_or_ge j i with hlt | hge
                · exact .inl ((hkeyB x).2 ⟨h1, i, s', by omega, h3, h4⟩)
                · have : i = j := by omega
                  subst this
                  rw [hsi] at h3; cases h3
                  exact .inr (by simpa using h4)
              · rw [gt_put hshB.ris (ris_put hshB.ris _ _) x hx]
                by_cases hx2 : s.k = x
                · rw [if_pos hx2, hx2]
                · rw [if_neg hx2]
                  exact hvalB x (by rw [hs_put] at hx; simpa [hx2] using hx)
            generalize s.k = sk at *
            generalize gtM sk Ma = gv at *
            clear hsi hrd hby hk0 hk1 hyl hshA hshB hkeyB hvalB HR hj hth hjw hms hm em gm hfv hy64 hbyt hr c0 c1
            obtain c0 := HSC.out wr kwr
            go_wp2_with (first
              | (go_at_call 46; refine GA.mono ?_; rintro e w3 ⟨⟨va, vn, vc⟩, rfl, o3, k3⟩; have c3 := HSC.out _ (kwr.andNu k3))
              | (go_at_call 47; refine (SB _ ⟨va, vn, vc⟩ k3 o3).mono ?_; rintro e w4 ⟨bb, rfl, h4⟩))
            exact ⟨⟨j, by rw [HW.out.2.1], by have := HW.out.1; omega, h4⟩, by first | exact HW.out.2.2 | (rw [HW.out.2.1]; exact HW.out.2.2)⟩
        | zero =>
          obtain rfl : Mb = Ma := ext_ris hshB.ris hshA.ris (fun x => by
            rw [Bool.eq_iff_iff, hkeyB x]
            refine ⟨fun h => h.1, fun h => ⟨h, ?_⟩⟩
            obtain ⟨s, hs', e⟩ := HX.out.2.2.1 x h
            obtain ⟨i, hi⟩ := List.mem_iff_getElem?.1 hs'
            exact ⟨i, s, Nat.zero_le _, hi, e⟩) hvalB
          have hRl : (rg lo hi Mb).length ≤ 1000 := by
            have h1 : (rg lo hi Mb).length ≤ Mb.length := List.length_filter_le _ _
            have := hshA.lm
            omega
          have SA := scan_any hshA lo hi 1000 (rg lo hi Mb).length (by rw [show (1000 : Int).toNat = 1000 from rfl]; omega)
          rw [decide_eq_false (Nat.lt_irrefl _), List.take_length] at SA
          have HY : Hid (Sh wr sa ma 1000 ta Mb ∧ Sh wr sb mb 1000 tb Mb ∧ Kp Nu w wr ∧ (rg lo hi Mb).length ≤ 1000) := ⟨hshA, hshB, kwr, hRl⟩
          obtain ⟨R, eR⟩ : ∃ R, rg lo hi Mb = R := ⟨_, rfl⟩
          have hR64 : ∀ m ∈ R, m.2.length ≤ 64 := fun m hm => by
            rw [← eR] at hm
            obtain ⟨p, _, hf⟩ := hshA.vs.mem m (rg_mem hm).1
            exact hf.2.2.1
          rw [eR] at SA HY
          have HER : Hid (rg lo hi Mb = R ∧ ∀ m ∈ R, m.2.length ≤ 64) := ⟨eR, hR64⟩
          obtain ⟨K, eK⟩ : ∃ K, R.length = K := ⟨_, rfl⟩
          rw [eK] at SA HY
          have HK := hide eK
          obtain ⟨i0, hi0, hz0, hz1, hz2⟩ := info_parts info5
          clear hRl hshA hshB hkeyB hvalB kwr HR hj HX HA eR hR64 eK
          go_wp2_with (go_at_call 49; refine SA.mono ?_; rintro e w3 ⟨gk, Ls, rfl, z3, k3⟩)
          have HZ : Hid (Cd w3 wr.heap.size gk K Ls R ∧ Kp Nu w w3 ∧ Sh w3 sa ma 1000 ta Mb ∧ Sh w3 sb mb 1000 tb Mb ∧ K ≤ 1000) := ⟨z3, HY.out.2.2.1.andNu k3, HY.out.1.nu k3, HY.out.2.1.nu k3, HY.out.2.2.2⟩
          clear z3 k3 SA HY mixed
          obtain ⟨w4, ew4⟩ : ∃ w4 : World, w4 = wr := ⟨_, rfl⟩
          subst ew4
          go_loopw [21, 22] (fun av iv wr => ∃ (i n ac : Nat) (ao : Option Addr), iv = .int .i64 (i : Int) ∧ av = .slice ao n ac ∧ i ≤ K ∧ Hid (n = (pbs (R.take i)).length ∧ wr.ownsRow w3.heap.size 5 1 (.slice ao n ac) n (cs (pbs (R.take i))) ∧ Kp Nu w3 wr)) (fun _ iv _ => K - (intOf iv).toNat)
          case atStart => exact ⟨0, 0, 0, none, rfl, rfl, Nat.zero_le _, rfl, own_nil', Kp.refl _ _⟩
          case round =>
            obtain ⟨i, n, ac, ao, rfl, rfl, hiK, HI⟩ := hrel
            by_cases hlt : i < K
            · obtain ⟨m, hm⟩ : ∃ m, R[i]? = some m := ⟨_, List.getElem?_eq_getElem (by rw [HK.out]; exact hlt)⟩
              obtain ⟨p, hp, hfv0, _, _⟩ := HZ.out.1.at_ hm
              have HCL : Hid (∀ W, Kp Nu w3 W → W.cell? ⟨gk, i * 2, none⟩ = some (.int .u64 m.1) ∧ W.cell? ⟨gk, i * 2 + 1, none⟩ = some (.slice p.2.a p.2.n p.2.c) ∧ Rd W (.slice p.2.a p.2.n p.2.c) m.2) := hide (fun W q => by
                obtain ⟨p', hp', hf, d0, d1⟩ := (HZ.out.1.nu q).at_ hm
                rw [hp] at hp'; cases hp'
                exact ⟨d0, d1, hf.rd⟩)
              obtain ⟨X, eX⟩ : ∃ X : Nat, m.1 = (X : Int) := ⟨m.1.toNat, by have := hfv0.2.2.2.1; omega⟩
              have hpn : p.2.n = m.2.length := hfv0.n
              have hm64 : m.2.length ≤ 64 := hfv0.2.2.1
              have hXb : (X : Int) < 18446744073709551616 := by have := hfv0.2.2.2.2.1; omega
              have HT : Hid (pbs (R.take (i + 1)) = pbs (R.take i) ++ (Cd.be 8 X ++ [0] ++ [(m.2.length : Int)] ++ m.2)) := by
                show _ = _
                rw [List.take_add_one, hm]
                show pbs (R.take i ++ [m]) = _
                rw [pbs_snoc, pb_eq _ _ hm64, eX, Int.toNat_natCast]
              have hlen := pbs_len (R.take i) (fun m hm => HER.out.2 m (List.mem_of_mem_take hm))
              have hll : (pbs (R.take i)).length ≤ 74000 := by rw [List.length_take] at hlen; have := HZ.out.2.2.2.2; omega
              have HLL := hide hll
              obtain ⟨mk, ys⟩ := m
              obtain ⟨pk, ⟨pa, pn, pcc⟩⟩ := p
              obtain rfl : mk = (X : Int) := eX
              have HYS : Hid (ys.length ≤ 64 ∧ pn = ys.length) := ⟨hm64, hpn⟩
              generalize pbs (R.take i) = P0 at *
              have hltI : (i : Int) < (K : Int) := by omega
              have hi00 : (0 : Int) ≤ (i : Int) := by omega
              have hwi : wrap64 ((i : Int) + 1) = ((i + 1 : Nat) : Int) := by have := HZ.out.2.2.2.2; unfold wrap64; omega
              have HW := hide (And.intro hlt (And.intro hwi hXb))
              clear hm hp hfv0 hpn hm64 hlen hll hwi hlt hiK hXb
              go_wp2_with fail
              obtain ⟨w5, ew5⟩ : ∃ w5 : World, w5 = wr := ⟨_, rfl⟩
              subst ew5
              go_loopw [21, 23] (fun av kv wr => ∃ (j n ac : Nat) (ao : Option Addr), kv = .int .i64 (8 * (j : Int) - 8) ∧ av = .slice ao n ac ∧ j ≤ 8 ∧ Hid (∃ pre, n = (P0 ++ pre).length ∧ pre ++ Cd.be j X = Cd.be 8 X ∧ wr.ownsRow w3.heap.size 5 1 (.slice ao n ac) n (cs (P0 ++ pre)) ∧ Kp Nu w3 wr)) (fun _ kv _ => (intOf kv + 8).toNat)
              case atStart =>
                refine ⟨8, n, ac, ao, rfl, rfl, Nat.le_refl _, [], ?_, rfl, ?_, HI.out.2.2⟩
                · rw [List.append_nil]; exact HI.out.1
                · rw [List.append_nil]; exact HI.out.2.1
              case round =>
                obtain ⟨j, n2, ac2, ao2, rfl, rfl, hj8, HJ⟩ := hrel
                obtain ⟨pre, hn2, hpre, hO, hKw⟩ := HJ.out
                cases j with
                | succ j =>
                  rw [show 8 * ((j + 1 : Nat) : Int) - 8 = 8 * (j : Int) by omega]
                  obtain ⟨d0, d1, d2⟩ := HCL.out _ hKw
                  have hplen : pre.length + (j + 1) = 8 := by
                    have := congrArg List.length hpre
                    rw [List.length_append, Cd.be_length, Cd.be_length] at this
                    exact this
                  have hnb : n2 ≤ 74008 := by rw [hn2, List.length_append]; have := HLL.out; omega
                  have hge : (0 : Int) ≤ 8 * (j : Int) := by omega
                  have hlt8 : 8 * (j : Int) < 64 := by omega
                  have hw8 : wrap64 (8 * (j : Int) - 8) = 8 * (j : Int) - 8 := by unfold wrap64; omega
                  have HP := hide (And.intro hn2 (And.intro hpre (And.intro hO (And.intro hKw (And.intro hnb (And.intro hj8 hw8))))))
                  clear hn2 hpre hplen hnb hw8 HJ d1 d2 hj8
                  go_wp2_with (at_builtin; refine wpList_append_own _ rfl _ _ 74 rfl w3.heap.size 5 i0 _ 1 1 Try.underlying74 hi0 hz0 hz1 hz2 rfl (by decide) _ n2 _ rfl (own_keep hO (fun g hg => Below.heap_alloc _ _ _ (own_lt hO hg))) ⟨wr.heap.size, 0, none⟩ 1 1 [.int .u8 ((X : Int) / 2 ^ (8 * j) % 256)] rfl ?qc1 ?qc2 ?qc3 ?qc4 ?qc5 ?qc6 ?_)
                  case qc1 => rfl
                  case qc2 => exact cell_one_new _ _ _
                  case qc3 => intro x hx; simp at hx; rw [hx]; rfl
                  case qc4 => have := HP.out.2.2.2.2.1; unfold maxLen; omega
                  case qc5 => have := HP.out.2.2.2.2.1; omega
                  case qc6 => have := HP.out.2.2.2.1.size; simp; omega
                  intro v' w6 hown hgrow hnil
                  have kk := own_app HP.out.2.2.1 rfl HP.out.2.2.2.1 hgrow
                  obtain ⟨av, cv, ev⟩ := own_slice hown
                  subst ev
                  have HF : Hid (∃ pre', n2 + 1 = (P0 ++ pre').length ∧ pre' ++ Cd.be j X = Cd.be 8 X ∧ w6.ownsRow w3.heap.size 5 1 (.slice av (n2 + 1) cv) (n2 + 1) (cs (P0 ++ pre')) ∧ Kp Nu w3 w6) := by
                    refine ⟨pre ++ [((X / 256 ^ j % 256 : Nat) : Int)], ?_, ?_, ?_, kk⟩
                    · rw [← List.append_assoc, List.length_append, ← HP.out.1]; rfl
                    · rw [List.append_assoc]; exact HP.out.2.1
                    · rw [← List.append_assoc, cs_append]
                      rw [Cd.byteAt] at hown
                      exact hown
                  have HP2 := hide (And.intro HP.out.2.2.2.2.2.1 HP.out.2.2.2.2.2.2)
                  clear hown hgrow hnil kk HP hO hKw
                  go_wp2
                  refine ⟨⟨j, n2 + 1, cv, av, by first | rfl | rw [HP2.out.2], rfl, by have := HP2.out.1; omega, HF⟩, ?_⟩
                  first
                    | (show (8 * (j : Int) - 8 + 8).toNat < (8 * (j : Int) + 8).toNat; omega)
                    | (rw [HP2.out.2]; show (8 * (j : Int) - 8 + 8).toNat < (8 * (j : Int) + 8).toNat; omega)
                | zero =>
                  have hpre' : pre = Cd.be 8 X := by simpa [Cd.be] using hpre
                  subst hpre'
                  have hnb : n2 ≤ 74008 := by rw [hn2, List.length_append, Cd.be_length]; have := HLL.out; omega
                  have HP := hide (And.intro hn2 (And.intro hO (And.intro hKw hnb)))
                  clear hn2 hpre hnb HJ hj8
                  go_wp2_with (at_builtin; refine wpList_append_own _ rfl _ _ 74 rfl w3.heap.size 5 i0 _ 1 1 Try.underlying74 hi0 hz0 hz1 hz2 rfl (by decide) _ n2 _ rfl (own_keep hO (fun g hg => Below.heap_alloc _ _ _ (own_lt hO hg))) ⟨wr.heap.size, 0, none⟩ 1 1 [.int .u8 0] rfl ?qd1 ?qd2 ?qd3 ?qd4 ?qd5 ?qd6 ?_)
                  case qd1 => rfl
                  case qd2 => exact cell_one_new _ _ _
                  case qd3 => intro x hx; simp at hx; rw [hx]; rfl
                  case qd4 => have := HP.out.2.2.2; unfold maxLen; omega
                  case qd5 => have := HP.out.2.2.2; omega
                  case qd6 => have := HP.out.2.2.1.size; simp; omega
                  intro v' w6 hown hgrow hnil
                  have kk := own_app HP.out.2.1 rfl HP.out.2.2.1 hgrow
                  obtain ⟨av, cv, ev⟩ := own_slice hown
                  subst ev
                  obtain ⟨_, d1, d2⟩ := HCL.out _ kk
                  rw [show cs (P0 ++ Cd.be 8 X) ++ [Value.int .u8 0] = cs (P0 ++ Cd.be 8 X ++ [0]) by rw [cs_append (P0 ++ Cd.be 8 X)]; rfl] at hown
                  have HP2 := hide (And.intro hown (And.intro kk HP.out.2.2.2))
                  clear hgrow hnil kk hO hKw HP
                  go_wp2_with (at_builtin; refine wpList_append_own _ rfl _ _ 74 rfl w3.heap.size 5 i0 _ 1 1 Try.underlying74 hi0 hz0 hz1 hz2 rfl (by decide) _ (n2 + 1) _ rfl (own_keep hown (fun g hg => Below.heap_alloc _ _ _ (own_lt hown hg))) ⟨w6.heap.size, 0, none⟩ 1 1 [.int .u8 ((pn : Int) % 256)] rfl ?qe1 ?qe2 ?qe3 ?qe4 ?qe5 ?qe6 ?_)
                  case qe1 => rfl
                  case qe2 => exact cell_one_new _ _ _
                  case qe3 => intro x hx; simp at hx; rw [hx]; rfl
                  case qe4 => have := HP2.out.2.2; unfold maxLen; omega
                  case qe5 => have := HP2.out.2.2; omega
                  case qe6 => have := HP2.out.2.1.size; simp; omega
                  intro v' w7 hown2 hgrow hnil
                  have kk := own_app HP2.out.1 rfl HP2.out.2.1 hgrow
                  obtain ⟨av2, cv2, ev⟩ := own_slice hown2
                  subst ev
                  obtain ⟨_, d1, d2⟩ := HCL.out _ kk
                  have hpn2 : (pn : Int) % 256 = (ys.length : Int) := by have := HYS.out; omega
                  replace hown2 : w7.ownsRow w3.heap.size 5 1 (.slice av2 (n2 + 1 + 1) cv2) (n2 + 1 + 1) (cs (P0 ++ Cd.be 8 X ++ [0] ++ [(ys.length : Int)])) := by
                    rw [hpn2] at hown2
                    simpa [cs] using hown2
                  have HP3 := hide (And.intro hown2 (And.intro kk HP2.out.2.2))
                  clear hgrow hnil kk hown HP2 hpn2
                  have FIN : Hid (∀ (a' : Option Addr) (c' : Nat) (V : World), V.ownsRow w3.heap.size 5 1 (.slice a' (n2 + 1 + 1 + pn) c') (n2 + 1 + 1 + pn) (cs (P0 ++ Cd.be 8 X ++ [0] ++ [(ys.length : Int)] ++ ys)) → Kp Nu w3 V → Hid (n2 + 1 + 1 + pn = (pbs (R.take (i + 1))).length ∧ V.ownsRow w3.heap.size 5 1 (.slice a' (n2 + 1 + 1 + pn) c') (n2 + 1 + 1 + pn) (cs (pbs (R.take (i + 1)))) ∧ Kp Nu w3 V)) := hide (fun a' c' V ho hk => by
                    have e : pbs (R.take (i + 1)) = P0 ++ Cd.be 8 X ++ [0] ++ [(ys.length : Int)] ++ ys := by rw [HT.out]; simp
                    refine ⟨?_, by rw [e]; exact ho, hk⟩
                    have := ho.1
                    rw [cs_length] at this
                    rw [e, this]; omega)
                  have HRD := hide d2
                  rcases d2 with ⟨e1, e2⟩ | ⟨ra, rc, e1, hrc⟩
                  · have e3 : pa = none ∧ pn = 0 ∧ pcc = 0 := by
                      have := Value.slice.inj e1
                      exact this
                    obtain ⟨rfl, rfl, rfl⟩ := e3
                    subst e2
                    clear e1
                    go_wp2_with (at_builtin; refine wpList_append_own_none rfl _ _ 74 rfl w3.heap.size 5 i0 1 Try.underlying74 hi0 _ (n2 + 1 + 1) _ rfl hown2 rfl ?_)
                    have HF := FIN.out av2 cv2 w7 (by simpa [cs] using HP3.out.1) HP3.out.2.1
                    go_wp2
                    exact ⟨⟨i + 1, n2 + 1 + 1, cv2, av2, by rw [HW.out.2.1], rfl, HW.out.1, HF⟩, lt_mi HW.out.2.1 HW.out.1⟩
                  · have e3 : pa = some ra ∧ pn = ys.length ∧ pcc = rc := Value.slice.inj e1
                    obtain ⟨rfl, e4, rfl⟩ := e3
                    have hrcs : Hid (∀ j x, (cs ys)[j]? = some x → w7.cell? (ra.add j) = some x) := hide hrc
                    have HYL := hide e4
                    clear e1 e4 hrc
                    go_wp2_with (at_builtin; refine wpList_append_own _ rfl _ _ 74 rfl w3.heap.size 5 i0 _ 1 1 Try.underlying74 hi0 hz0 hz1 hz2 rfl (by decide) _ (n2 + 1 + 1) _ rfl hown2 ra pn pcc (cs ys) rfl ?qf1 ?qf2 ?qf3 ?qf4 ?qf5 ?qf6 ?_)
                    case qf1 => rw [cs_length, HYL.out]; simp
                    case qf2 => exact hrcs.out
                    case qf3 => exact cs_one ys
                    case qf4 => have := HP3.out.2.2; have := HYS.out; unfold maxLen; omega
                    case qf5 => have := HP3.out.2.2; have := HYS.out; omega
                    case qf6 => have := HP3.out.2.1.size; omega
                    intro v' w8 hown3 hgrow hnil
                    have kk := own_app0 HP3.out.1 rfl HP3.out.2.1 hgrow
                    obtain ⟨av3, cv3, ev⟩ := own_slice hown3
                    subst ev
                    have HF := FIN.out av3 cv3 w8 (by simpa [cs] using hown3) kk
                    clear hown3 hgrow hnil kk hown2
                    go_wp2
                    exact ⟨⟨i + 1, n2 + 1 + 1 + pn, cv3, av3, by rw [HW.out.2.1], rfl, HW.out.1, HF⟩, lt_mi HW.out.2.1 HW.out.1⟩
            · obtain rfl : i = K := by omega
              have hI := HI.out
              rw [List.take_of_length_le (by rw [HK.out]; exact Nat.le_refl _)] at hI
              obtain ⟨hn, hO, hKw⟩ := hI
              have FV1 := Cd.fnv50 wr (.slice ao n ac) (pbs R) (ofRd (Rd.of_own hO)) (by
                have := pbs_len R HER.out.2
                have := HK.out
                have := HZ.out.2.2.2.2
                omega)
              have DA := digest_any (HZ.out.2.2.1.nu hKw) lo hi
              have DB : ∀ W, Kp Nu wr W → Calls Try.prog 51 #[.pointer (some ⟨sb, 0, none⟩), .int .u64 lo, .int .u64 hi] W fun e w' => e = .returned (.int .u64 (Cd.fv f0 (pbs R))) ∧ Kp Nu wr w' := fun W q => by
                refine (digest_any (HZ.out.2.2.2.1.nu (hKw.andNu q)) lo hi).mono ?_
                rintro e w' ⟨e1, e2⟩
                rw [HER.out.1] at e1
                exact ⟨e1, q.andNu e2⟩
              rw [HER.out.1] at DA
              have LA : ∀ W, Kp Nu wr W → Calls Try.prog 52 #[.pointer (some ⟨sa, 0, none⟩)] W fun e w' => e = .returned (.int .i64 (Mb.length : Int)) ∧ w' = W := fun W q => slen_any (HZ.out.2.2.1.nu (hKw.andNu q))
              have LB : ∀ W, Kp Nu wr W → Calls Try.prog 52 #[.pointer (some ⟨sb, 0, none⟩)] W fun e w' => e = .returned (.int .i64 (Mb.length : Int)) ∧ w' = W := fun W q => slen_any (HZ.out.2.2.2.1.nu (hKw.andNu q))
              generalize Cd.fv f0 (pbs R) = hh at *
              generalize (Mb.length : Int) = ml at *
              have y1 : (hh == hh) = true := by simp
              have y2 : (ml == ml) = true := by simp
              have hnl2 : ¬ (i : Int) < (i : Int) := by omega
              have HKw := hide (HZ.out.2.1.andNu hKw)
              clear hn hO hKw HI hlt hiK
              go_wp2_with (first
                | (go_at_call 50; refine FV1.mono ?_; rintro e w6 ⟨rfl, hw⟩; obtain rfl := hw.symm)
                | (go_at_call 51; refine DA.mono ?_; rintro e w6 ⟨rfl, k6⟩; clear DA)
                | (go_at_call 51; refine (DB _ k6).mono ?_; rintro e w7 ⟨rfl, k7⟩)
                | (go_at_call 52; refine (LA _ k7).mono ?_; rintro e w8 ⟨rfl, hw⟩; obtain rfl := hw.symm; clear LA)
                | (go_at_call 52; refine (LB _ k7).mono ?_; rintro e w9 ⟨rfl, hw⟩; obtain rfl := hw.symm))
              go_ret
              exact ⟨rfl, HKw.out.andNu k7⟩
end Go.Proofs.Ytchealdgncgjoaa.StU
