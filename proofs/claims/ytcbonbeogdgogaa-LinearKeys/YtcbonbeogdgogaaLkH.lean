import Derived.Test.YtcbonbeogdgogaaLkF
import Derived.Test.YtcbonbeogdgogaaLrM
import Derived.Test.YtcbonbeogdgogaaLoI
import Derived.Test.YtcbonbeogdgogaaLrQ
namespace Go.Proofs.Ytcbonbeogdgogaa.Li
open Go.RowKit
set_option linter.unusedVariables false
/-- a call's words do not hang on where its bytes lie -/
theorem cvs_alk {L D : List Ca} (hl : D.length = L.length) (h : Alk L D L.length) : cvs D = cvs L := by
  rw [cvs_eq, cvs_eq]
  congr 1
  refine List.ext_getElem? (fun j => ?_)
  rcases alk_get hl h j with ⟨h1, h2⟩ | ⟨c, d, h1, h2, va, oa, ya, vc, oc, yc, rfl⟩
  · simp [h1, h2]
  · simp only [List.getElem?_map, h1, h2]
    rfl
theorem schOf_alk {L D : List Ca} (hl : D.length = L.length) (h : Alk L D L.length) : schOf D = schOf L := by
  have hc := cvs_alk hl h
  have hb : ∀ (c d : Ca), Same c d → befs D d = befs L c := fun c d hs => by
    funext n
    obtain ⟨va, oa, ya, vc, oc, yc, rfl⟩ := hs
    have e1 : ∀ x : Ca, bef x (c.at_ va oa ya vc oc yc) ↔ bef x c := fun x => Iff.rfl
    rcases alk_get hl h n with ⟨h1, h2⟩ | ⟨a, a', h1, h2, va', oa', ya', vc', oc', yc', rfl⟩
    · unfold befs; rw [h1, h2]
    · cases hq : befs L c n with
      | true =>
        have := (befs_iff h1).1 hq
        exact (befs_iff h2).2 this
      | false =>
        cases hq2 : befs D (c.at_ va oa ya vc oc yc) n with
        | false => rfl
        | true =>
          have t1 : bef a c := (befs_iff h2).1 hq2
          have t2 : befs L c n = true := (befs_iff h1).2 t1
          rw [hq] at t2
          cases t2
  have hk : kns D = kns L := by
    funext n
    rcases alk_get hl h n with ⟨h1, h2⟩ | ⟨a, a', h1, h2, va', oa', ya', vc', oc', yc', rfl⟩
    · unfold kns; rw [h1, h2]
    · cases hq : kns L n with
      | true => exact (kns_iff h2).2 ((kns_iff h1).1 hq)
      | false =>
        cases hq2 : kns D n with
        | false => rfl
        | true =>
          have := (kns_iff h1).2 ((kns_iff h2).1 hq2)
          rw [hq] at this
          cases this
  unfold schOf
  rw [hl, hc, hk]
  congr 1
  · funext k i
    rcases alk_get hl h k with ⟨h1, h2⟩ | ⟨c, d, h1, h2, va, oa, ya, vc, oc, yc, rfl⟩
    · rw [h1, h2]
    · rw [h1, h2]; rfl
  · funext k
    rcases alk_get hl h k with ⟨h1, h2⟩ | ⟨c, d, h1, h2, hs⟩
    · rw [h1, h2]
    · rw [h1, h2]
      simp only
      rw [hb c d hs]
theorem allMB_alk {L D : List Ca} (hl : D.length = L.length) (h : Alk L D L.length) (hm : AllMB L) : AllMB D := fun d hd => by
  obtain ⟨j, hj⟩ := List.getElem?_of_mem hd
  rcases alk_get hl h j with ⟨_, h2⟩ | ⟨c, d', h1, h2, va, oa, ya, vc, oc, yc, rfl⟩
  · rw [h2] at hj; cases hj
  · rw [h2] at hj
    cases hj
    exact hm c (List.mem_of_getElem? h1)
theorem oneK_alk {L D : List Ca} (hl : D.length = L.length) (h : Alk L D L.length) (hm : OneK L) : OneK D := fun d hd => by
  obtain ⟨j, hj⟩ := List.getElem?_of_mem hd
  rcases alk_get hl h j with ⟨_, h2⟩ | ⟨c, d', h1, h2, va, oa, ya, vc, oc, yc, rfl⟩
  · rw [h2] at hj; cases hj
  · rw [h2] at hj
    cases hj
    refine ⟨(hm c (List.mem_of_getElem? h1)).1, fun d2 hd2 => ?_⟩
    rcases alk_get hl h 0 with ⟨_, g2⟩ | ⟨c0, d0, g1, g2, va', oa', ya', vc', oc', yc', rfl⟩
    · rw [g2] at hd2; cases hd2
    · rw [g2] at hd2
      cases hd2
      exact (hm c (List.mem_of_getElem? h1)).2 c0 g1
/-- both answers are one -/
theorem ckr_same {w1 w2 w1' w2' : World} {L D : List Ca} (hl : D.length = L.length) (h : Alk L D L.length) {e1 e2 : Ending} (h1 : CkR w1 D e1 w1') (h2 : CkR w2 L e2 w2') :
    ∃ ok key er n o a1 c1 a2 c2, e1 = .returned (.tuple #[.agg #[.bool ok, .int .u64 key, .slice a1 n c1], .int .i64 er]) ∧ e2 = .returned (.tuple #[.agg #[.bool ok, .int .u64 key, .slice a2 n c2], .int .i64 er]) ∧ Kp Nu w1 w1' ∧ Kp Nu w2 w2' ∧ o.length = n ∧ n ≤ 65536 ∧ Ns w1' (.slice a1 n c1) (oi o) ∧ Ns w2' (.slice a2 n c2) (oi o) := by
  obtain ⟨ok, key, a1, n, c1, er, rfl, k1, q1⟩ := h1
  obtain ⟨ok2, key2, a2, n2, c2, er2, rfl, k2, q2⟩ := h2
  have hns : ∀ (W : World), Ns W (.slice none 0 0) (oi []) := fun W => ⟨none, 0, rfl, by simp [oi], fun j x hx => by simp [oi] at hx⟩
  have hMB : AllMB D ↔ AllMB L := ⟨allMB_alk hl.symm (h.symm hl), allMB_alk hl h⟩
  have hOK : OneK D ↔ OneK L := ⟨oneK_alk hl.symm (h.symm hl), oneK_alk hl h⟩
  have hsch := schOf_alk hl h
  rcases q1 with ⟨rfl, rfl, rfl, rfl, rfl, q1⟩ | ⟨rfl, p1, p2, p3, p4⟩
  · rcases q2 with ⟨rfl, rfl, rfl, rfl, rfl, q2⟩ | ⟨rfl, r1, r2, r3, r4⟩
    · have her : er = er2 := by
        rcases q1 with ⟨q1, q3⟩ | ⟨q1, q3, _⟩ <;> rcases q2 with ⟨q2, q4⟩ | ⟨q2, q4, _⟩ <;> omega
      subst her
      exact ⟨false, 0, er, 0, [], none, 0, none, 0, rfl, rfl, k1, k2, rfl, by omega, hns _, hns _⟩
    · exfalso
      rcases q1 with ⟨_, q3⟩ | ⟨_, _, q3⟩
      · omega
      · exact q3 ⟨hMB.2 r2, hOK.2 r3⟩
  · rcases q2 with ⟨rfl, rfl, rfl, rfl, rfl, q2⟩ | ⟨rfl, r1, r2, r3, r4⟩
    · exfalso
      rcases q2 with ⟨_, q3⟩ | ⟨_, _, q3⟩
      · omega
      · exact q3 ⟨hMB.1 p2, hOK.1 p3⟩
    · unfold Vd at p4 r4
      rw [hsch] at p4
      cases ok with
      | true =>
        obtain ⟨rfl, o, ho, hf, hrow⟩ := p4.1 rfl
        cases ok2 with
        | false => exact absurd hf.can (r4.2 rfl).2.2.2.1
        | true =>
          obtain ⟨rfl, o2, ho2, hf2, hrow2⟩ := r4.1 rfl
          obtain rfl := hf.unique hf2
          subst ho
          subst ho2
          have hlen := hf.len (Nat.pow_pos (by decide) : 0 < 2 ^ (schOf L).n)
          have h16 : 2 ^ (schOf L).n ≤ 65536 := two16 r1
          have mk : ∀ (W : World) (a : Option Addr) (c B : Nat), W.ownsRow B 3 1 (.slice a o.length c) o.length (ints o) → Ns W (.slice a o.length c) (oi o) := fun W a c B q => by
            rw [ints_oi] at q
            have e : o.length = (oi o).length := (oi_len o).symm
            rw [e] at q ⊢
            exact Ns.of_own q
          exact ⟨true, 0, 0, o.length, o, a1, c1, a2, c2, rfl, rfl, k1, k2, rfl, by omega, mk _ _ _ _ hrow, mk _ _ _ _ hrow2⟩
      | false =>
        obtain ⟨rfl, rfl, rfl, hno, c, hc, rfl⟩ := p4.2 rfl
        cases ok2 with
        | true =>
          obtain ⟨_, o2, _, hf2, _⟩ := r4.1 rfl
          exact absurd hf2.can hno
        | false =>
          obtain ⟨rfl, rfl, rfl, _, c2, hc2, rfl⟩ := r4.2 rfl
          have hkey : c.key = c2.key := by
            rcases alk_get hl h 0 with ⟨_, g2⟩ | ⟨c0, d0, g1, g2, va', oa', ya', vc', oc', yc', rfl⟩
            · rw [g2] at hc; cases hc
            · rw [g2] at hc
              rw [g1] at hc2
              cases hc
              cases hc2
              rfl
          rw [hkey]
          exact ⟨false, c2.key, 0, 0, [], none, 0, none, 0, rfl, rfl, k1, k2, rfl, by omega, hns _, hns _⟩
end Go.Proofs.Ytcbonbeogdgogaa.Li
