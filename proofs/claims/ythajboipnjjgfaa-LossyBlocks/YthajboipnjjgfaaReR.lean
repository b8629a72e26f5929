import Derived.Test.YthajboipnjjgfaaReQ
namespace Go.Proofs.Ythajboipnjjgfaa.Ly
open Go.RowKit Go.Maps
set_option linter.unusedVariables false
set_option linter.unusedSimpArgs false

section
variable {w0 w : World} {n : Value} {p : Nat} {k : Int}

theorem Al.livlen {L : List Gm} {H : List Hg} (h : Al L H) : (liv H).length = L.length := by
  rw [← pls_length H 0]; exact h.length
theorem dp_al {L : List Gm} {H H' : List Hg} {xs : List Int} (h : Al L H) (hm : Mk (dpH xs H) H H') (hin : ∀ x ∈ xs, 0 ≤ x) : Al (sift (drP xs) 0 L) H' := by
  refine Mk.al H H' L (dpH xs H) (drP xs) 0 0 hm h (fun m j g hj hg => ?_)
  rw [Nat.sub_zero, Nat.zero_add]
  unfold dpH drP
  have hnd := pls_nodup H 0
  rw [Bool.eq_iff_iff, List.any_eq_true, decide_eq_true_iff]
  constructor
  · rintro ⟨x, hx, he⟩
    have he' : (pls 0 H)[x.toNat]? = some j := by simpa using he
    obtain ⟨l1, q1⟩ := List.getElem?_eq_some_iff.1 he'
    obtain ⟨l2, q2⟩ := List.getElem?_eq_some_iff.1 hj
    have := nodup_idx hnd l1 l2 (q1.trans q2.symm)
    have h0 := hin x hx
    have e : (m : Int) = x := by omega
    rw [e]; exact hx
  · intro hx
    exact ⟨(m : Int), hx, by simp [hj]⟩
theorem sw_al {L : List Gm} {H H' : List Hg} {a b : Int} (h : Al L H) (hm : Mk (swH a b H) H H') : Al (sift (swP a b) 0 L) H' := by
  refine Mk.al H H' L (swH a b H) (swP a b) 0 0 hm h (fun m j g hj hg => ?_)
  rw [Nat.sub_zero]
  obtain ⟨x, hx, _, ef, et, _⟩ := h.at hj hg
  simp [swH, swP, hx, ef, et]

set_option maxHeartbeats 1000000 in
theorem drop_pair (h : Stt w0 w n p k) (hkb : k < 1599289640400) (u dv : Value) (xs : List Int) (hu : RdI w u xs) (hd : RdI w0 dv xs) (hn : (xs.length : Int) ≤ 9223372036854775807) :
    Calls Try.prog 19 #[n, u] w fun e w' => ∃ q er, e = .returned (.tuple #[.int .i64 q, .int .i64 er]) ∧ Ob Tp w w' ∧ Kp Nu w0 w' ∧ ∀ W, Kp Nu w' W → Calls Try.prog 73 #[.pointer (some ⟨p, 0, none⟩), dv] W fun e w'' => e = .returned (.tuple #[.int .i64 q, .int .i64 er]) ∧ Stt w0 w'' n p (k + 1) ∧ Ob Tq W w'' := by
  rcases h with ⟨b, bm, nb, room, D, v, v2, c, L, H, bs, rfl, h⟩ | ⟨rfl, h, r⟩
  · have hH : (H.length : Int) ≤ 1599289640400 := by have := h.hk; omega
    have hfax : Fax c := h.inv.fax (by omega)
    have hx0 : 0 ≤ c.x := Cok.x0 hfax
    have hlen := h.al.length
    refine (drop_any h.nt u xs hu hn hx0 hfax.lt).mono ?_
    intro e w2 hP
    unfold DrP at hP
    cases hin : inAll xs L.length
    · rw [hin] at hP
      obtain ⟨rfl, k2⟩ := hP
      refine ⟨0, 54, rfl, Ob.of_nu k2, h.kp.andNu k2, fun W kW => ?_⟩
      have kW0 := (h.kp.andNu k2).andNu kW
      refine (refDrop_any ((h.rn.nu k2).nu kW) hH dv xs hd kW0 (Nat.le_refl _) hn hx0 hfax.lt).mono ?_
      rintro e w3 (⟨_, rfl, k3⟩ | ⟨hi, _⟩)
      · exact ⟨rfl, Stt.up (.inl ⟨_, _, _, _, _, _, _, _, _, _, _, rfl, ((h.nu k2).nu kW).nu k3⟩), Ob.of_nu k3⟩
      · rw [hlen, hin] at hi; cases hi
    · rw [hin] at hP
      obtain ⟨rfl, v', hN, hF⟩ := hP
      have kw := kp_fr h.kp h.nt hF
      have rw2 := rn_fr h.nt h.rn hF
      refine ⟨_, 0, rfl, Ob.of_fr h.nt hF, kw, fun W kW => ?_⟩
      have hRW := rw2.nu kW
      have hnn : ∀ x ∈ xs, 0 ≤ x := fun x hx => by
        have := List.all_eq_true.1 hin x hx
        simp [inL] at this
        omega
      refine (refDrop_any hRW hH dv xs hd (kw.andNu kW) (Nat.le_refl _) hn hx0 hfax.lt).mono ?_
      rintro e w3 (⟨hi, _⟩ | ⟨_, q, H', rfl, hq, hm, r3, f3⟩)
      · rw [hlen, hin] at hi; cases hi
      · have al' := dp_al h.al hm hnn
        have e1 : (q : Int) = (L.length : Int) - ((sift (drP xs) 0 L).length : Int) := by
          have h1 := al'.livlen
          have h2 := h.al.livlen
          omega
        rw [e1] at r3 ⊢
        refine ⟨rfl, .inl ⟨_, _, _, _, _, _, _, _, _, _, _, rfl, Lv.fin (kw.andNu kW) (hN.nu kW) hRW r3 f3 al' h.br (h.inv.step (kind := 5) (.drop _)) (by have := h.hk; rw [hm.len]; omega) (by have := h.nbk; omega)⟩, Ob.of_fq hRW f3⟩
  · obtain ⟨adu, capu, eu⟩ := hu.slice
    obtain ⟨adv, capv, ev⟩ := hd.slice
    refine (drop_nil w u adu _ capu eu).mono ?_
    rintro e w2 ⟨rfl, rfl⟩
    refine ⟨0, 1, rfl, Ob.of_nu (Kp.refl _ _), h, fun W kW => ?_⟩
    refine (refDrop_no (r.nu kW) dv adv _ capv ev).mono ?_
    rintro e w3 ⟨rfl, rfl⟩
    exact ⟨rfl, .inr ⟨rfl, h.andNu kW, r.nu kW⟩, Ob.of_nu (Kp.refl _ _)⟩

/-- the document's Sweep behind a call of the program's that sifts by the same fields -/
theorem sweep_next {W w0 : World} {b bm nb p : Nat} {room : Int} {D : DataW Unit} {v v2 : Value} {c : Ct} {L : List Gm} {H : List Hg} {bs : Nat → Bool} {k : Int} (a e' : Int) (hkb : k < 1599289640400) (kW : Kp Nu w0 W) (hN : Nt w0.heap.size W b bm nb room D v { c with x := c.x + ((L.length : Int) - ((sift (swP a e') 0 L).length : Int)) } (sift (swP a e') 0 L)) (hR : Rn w0.heap.size W p true room bs v2 c H) (al : Al L H) (br : Brs D bs) (inv : Inv c L k) (hk : (H.length : Int) ≤ k) (nbk : (nb : Int) ≤ k) :
    Calls Try.prog 75 #[.pointer (some ⟨p, 0, none⟩), .int .i64 a, .int .i64 e'] W fun e w'' => e = .returned (.int .i64 ((L.length : Int) - ((sift (swP a e') 0 L).length : Int))) ∧ Stt w0 w'' (.pointer (some ⟨b, 0, none⟩)) p (k + 1) ∧ Ob Tq W w'' := by
  have hfax : Fax c := inv.fax (by omega)
  refine (refSweep_any hR (by omega) a e' (Cok.x0 hfax) hfax.lt).mono ?_
  rintro e w3 ⟨q, H', rfl, hq, hm, r3, f3⟩
  have al' := sw_al al hm
  have e1 : (q : Int) = (L.length : Int) - ((sift (swP a e') 0 L).length : Int) := by
    have h1 := al'.livlen
    have h2 := al.livlen
    omega
  rw [e1] at r3 ⊢
  exact ⟨rfl, .inl ⟨_, _, _, _, _, _, _, _, _, _, _, rfl, Lv.fin kW hN hR r3 f3 al' br (inv.step (kind := 6) (.drop _)) (by rw [hm.len]; omega) (by omega)⟩, Ob.of_fq hR f3⟩
/-- the document's Sweep of a network that is not there -/
theorem sweep_dead {W w0 : World} {p : Nat} {k : Int} (a e' : Int) (h : Kp Nu w0 W) (r : Rn w0.heap.size W p false 0 (fun _ => false) (.slice none 0 0) Ct0 []) :
    Calls Try.prog 75 #[.pointer (some ⟨p, 0, none⟩), .int .i64 a, .int .i64 e'] W fun e w'' => e = .returned (.int .i64 0) ∧ Stt w0 w'' (.pointer none) p (k + 1) ∧ Ob Tq W w'' := by
  refine (refSweep_any r (by simp) a e' (by simp [Ct0]) (by simp [Ct0])).mono ?_
  rintro e w3 ⟨q, H', rfl, hq, hm, r3, f3⟩
  have hH : H' = [] := List.eq_nil_of_length_eq_zero (by simpa using hm.len)
  subst hH
  obtain rfl : q = 0 := by simpa [liv] using hq
  have e0 : ({ Ct0 with x := Ct0.x + ((0 : Nat) : Int) } : Ct) = Ct0 := rfl
  rw [e0] at r3
  exact ⟨rfl, .inr ⟨rfl, kp_fq h r f3, r3⟩, Ob.of_fq r f3⟩
theorem sweep_pair (h : Stt w0 w n p k) (hkb : k < 1599289640400) (a e' : Int) :
    Calls Try.prog 51 #[n, .int .i64 a, .int .i64 e'] w fun e w' => ∃ q, e = .returned (.int .i64 q) ∧ Ob Tp w w' ∧ Kp Nu w0 w' ∧ ∀ W, Kp Nu w' W → Calls Try.prog 75 #[.pointer (some ⟨p, 0, none⟩), .int .i64 a, .int .i64 e'] W fun e w'' => e = .returned (.int .i64 q) ∧ Stt w0 w'' n p (k + 1) ∧ Ob Tq W w'' := by
  rcases h with ⟨b, bm, nb, room, D, v, v2, c, L, H, bs, rfl, h⟩ | ⟨rfl, h, r⟩
  · have hfax : Fax c := h.inv.fax (by omega)
    refine (sweep_any h.nt a e' (Cok.x0 hfax) hfax.lt).mono ?_
    rintro e w2 ⟨rfl, v', hN, hF⟩
    have kw := kp_fr h.kp h.nt hF
    exact ⟨_, rfl, Ob.of_fr h.nt hF, kw, fun W kW => sweep_next a e' hkb (kw.andNu kW) (hN.nu kW) ((rn_fr h.nt h.rn hF).nu kW) h.al h.br h.inv h.hk h.nbk⟩
  · refine (sweep_nil w a e').mono ?_
    rintro e w2 ⟨rfl, k2⟩
    exact ⟨0, rfl, Ob.of_nu k2, h.andNu k2, fun W kW => sweep_dead a e' ((h.andNu k2).andNu kW) ((r.nu k2).nu kW)⟩
theorem swP_all (L : List Gm) : ∀ i, sift (swP (-1) (-1)) i L = [] := by
  induction L with
  | nil => intro i; rfl
  | cons g r ih => intro i; simp [sift, swP, stF, ih]
theorem empty_pair (h : Stt w0 w n p k) (hkb : k < 1599289640400) :
    Calls Try.prog 32 #[n] w fun e w' => ∃ q, e = .returned (.int .i64 q) ∧ Ob Tp w w' ∧ Kp Nu w0 w' ∧ ∀ W, Kp Nu w' W → Calls Try.prog 75 #[.pointer (some ⟨p, 0, none⟩), .int .i64 (-1), .int .i64 (-1)] W fun e w'' => e = .returned (.int .i64 q) ∧ Stt w0 w'' n p (k + 1) ∧ Ob Tq W w'' := by
  rcases h with ⟨b, bm, nb, room, D, v, v2, c, L, H, bs, rfl, h⟩ | ⟨rfl, h, r⟩
  · have hfax : Fax c := h.inv.fax (by omega)
    refine (empty_any h.nt (Cok.x0 hfax) hfax.lt).mono ?_
    rintro e w2 ⟨rfl, v', hN, hF⟩
    have kw := kp_fr h.kp h.nt hF
    refine ⟨_, rfl, Ob.of_fr h.nt hF, kw, fun W kW => ?_⟩
    have e0 := swP_all L 0
    have e1 : (L.length : Int) - ((sift (swP (-1) (-1)) 0 L).length : Int) = (L.length : Int) := by rw [e0]; simp
    have := sweep_next (L := L) (c := c) (v := v') (D := D) (-1) (-1) hkb (kw.andNu kW) (by rw [e1, e0]; exact hN.nu kW) ((rn_fr h.nt h.rn hF).nu kW) h.al h.br h.inv h.hk h.nbk
    rw [e1] at this
    exact this
  · refine (empty_nil w).mono ?_
    rintro e w2 ⟨rfl, k2⟩
    exact ⟨0, rfl, Ob.of_nu k2, h.andNu k2, fun W kW => sweep_dead (-1) (-1) ((h.andNu k2).andNu kW) ((r.nu k2).nu kW)⟩
theorem block_pair (h : Stt w0 w n p k) (hkb : k < 1599289640400) (f t : Int) (f0 : 0 ≤ f) (f1 : f < 256) (t0 : 0 ≤ t) (t1 : t < 256) :
    Calls Try.prog 35 #[n, .int .u8 f, .int .u8 t] w fun e w' => ∃ q, e = .returned (.int .i64 q) ∧ Ob Tp w w' ∧ Kp Nu w0 w' ∧ ∀ W, Kp Nu w' W → Calls Try.prog 76 #[.pointer (some ⟨p, 0, none⟩), .int .i64 f, .int .i64 t] W fun e w'' => e = .returned (.int .i64 q) ∧ Stt w0 w'' n p (k + 1) ∧ Ob Tq W w'' := by
  rcases h with ⟨b, bm, nb, room, D, v, v2, c, L, H, bs, rfl, h⟩ | ⟨rfl, h, r⟩
  · refine (block_any h.nt f t f0 f1 t0 t1 (by have := h.nbk; unfold maxLen; omega)).mono ?_
    rintro e w2 ⟨rfl, hN, hF⟩
    have kw := kp_fr h.kp h.nt hF
    refine ⟨_, rfl, Ob.of_fr h.nt hF, kw, fun W kW => ?_⟩
    have hRW := (rn_fr h.nt h.rn hF).nu kW
    refine (refBlock_ok hRW f t f0 f1 t0 t1).mono ?_
    rintro e w3 ⟨rfl, r3, f3⟩
    exact ⟨rfl, .inl ⟨_, _, _, _, _, _, _, _, _, _, _, rfl, Lv.fin (kw.andNu kW) (hN.nu kW) hRW r3 f3 h.al (h.br.block h.nt.map f0 f1 t0 t1) h.inv.up (by have := h.hk; omega) (by have := h.nbk; omega)⟩, Ob.of_fq hRW f3⟩
  · refine (block_nil w f t).mono ?_
    rintro e w2 ⟨rfl, rfl⟩
    refine ⟨1, rfl, Ob.of_nu (Kp.refl _ _), h, fun W kW => ?_⟩
    refine (refBlock_no (r.nu kW) f t).mono ?_
    rintro e w3 ⟨rfl, rfl⟩
    exact ⟨rfl, .inr ⟨rfl, h.andNu kW, r.nu kW⟩, Ob.of_nu (Kp.refl _ _)⟩
theorem heal_pair (h : Stt w0 w n p k) (hkb : k < 1599289640400) (a e' : Int) :
    Calls Try.prog 33 #[n, .int .i64 a, .int .i64 e'] w fun e w' => ∃ q, e = .returned (.int .i64 q) ∧ Ob Tp w w' ∧ Kp Nu w0 w' ∧ ∀ W, Kp Nu w' W → Calls Try.prog 77 #[.pointer (some ⟨p, 0, none⟩), .int .i64 a, .int .i64 e'] W fun e w'' => e = .returned (.int .i64 q) ∧ Stt w0 w'' n p (k + 1) ∧ Ob Tq W w'' := by
  rcases h with ⟨b, bm, nb, room, D, v, v2, c, L, H, bs, rfl, h⟩ | ⟨rfl, h, r⟩
  · have main : Calls Try.prog 33 #[.pointer (some ⟨b, 0, none⟩), .int .i64 a, .int .i64 e'] w fun e w' => ∃ D' nb', e = .returned (.int .i64 ((Maps.size D : Int) - (Maps.size D' : Int))) ∧ nb' ≤ nb ∧ Hd a e' D D' ∧ Nt w0.heap.size w' b bm nb' room D' v c L ∧ Fr b bm v w w' v := by
      by_cases hnm : a = -1 ∧ e' = -1
      · obtain ⟨rfl, rfl⟩ := hnm
        refine (heal_all h.nt).mono ?_
        rintro e w2 ⟨rfl, hN, hF⟩
        refine ⟨.map [], 0, by simp [Maps.size], by omega, fun f t f0 f1 t0 t1 => ?_, hN, hF⟩
        simp [bar, has_eq, stF]
      · refine (heal_some h.nt a e' hnm (by have := h.nbk; omega)).mono ?_
        rintro e w2 ⟨D', rfl, hd, hN, hF⟩
        exact ⟨D', nb, rfl, Nat.le_refl _, hd, hN, hF⟩
    refine main.mono ?_
    rintro e w2 ⟨D', nb', rfl, hnb, hd, hN, hF⟩
    have kw := kp_fr h.kp h.nt hF
    refine ⟨_, rfl, Ob.of_fr h.nt hF, kw, fun W kW => ?_⟩
    have hRW := (rn_fr h.nt h.rn hF).nu kW
    have br' := h.br.heal hd
    refine (refHeal_any hRW a e').mono ?_
    rintro e w3 ⟨rfl, r3, f3⟩
    have s1 := size_tru h.nt.map h.br
    have s2 := size_tru hN.map br'
    have s3 := cnt_tru bs a e' top top (Nat.le_refl _)
    have e1 : (cntH bs a e' top : Int) = (Maps.size D : Int) - (Maps.size D' : Int) := by omega
    exact ⟨by rw [e1], .inl ⟨_, _, _, _, _, _, _, _, _, _, _, rfl, Lv.fin (kw.andNu kW) (hN.nu kW) hRW r3 f3 h.al br' h.inv.up (by have := h.hk; omega) (by have := h.nbk; omega)⟩, Ob.of_fq hRW f3⟩
  · refine (heal_nil w a e').mono ?_
    rintro e w2 ⟨rfl, rfl⟩
    refine ⟨0, rfl, Ob.of_nu (Kp.refl _ _), h, fun W kW => ?_⟩
    refine (refHeal_any (r.nu kW) a e').mono ?_
    rintro e w3 ⟨rfl, r3, f3⟩
    have e0 : cntH (fun _ => false) a e' top = 0 := by unfold cntH; simp
    have e1 : hl (fun _ => false) a e' top = fun _ => false := by funext i; simp [hl]
    rw [e1] at r3
    exact ⟨by rw [e0]; rfl, .inr ⟨rfl, kp_fq (h.andNu kW) (r.nu kW) f3, r3⟩, Ob.of_fq (r.nu kW) f3⟩
theorem blocked_pair (h : Stt w0 w n p k) (hkb : k < 1599289640400) :
    Calls Try.prog 47 #[n] w fun e w' => ∃ u xs, e = .returned u ∧ (xs : List Nat).length ≤ 65536 ∧ (∀ x ∈ xs, x < 65536) ∧ w'.ownsRow w.heap.size 86 2 u xs.length (ecs (xs.map pr)) ∧ Kp Nu w w' ∧ ∀ W, Kp Nu w' W → Calls Try.prog 88 #[.pointer (some ⟨p, 0, none⟩)] W fun e w'' => ∃ u2, e = .returned u2 ∧ w''.ownsRow W.heap.size 139 2 u2 xs.length (pcs xs) ∧ Kp Nu W w'' := by
  rcases h with ⟨b, bm, nb, room, D, v, v2, c, L, H, bs, rfl, h⟩ | ⟨rfl, h, r⟩
  · refine (blocked_any h.nt (by have := h.nbk; omega)).mono ?_
    rintro e w2 ⟨u, ss, rfl, hs, ho, k2⟩
    have e1 := srt_eq hs h.br
    have e2 : ss.length = (tru bs top).length := by
      have := congrArg List.length e1
      rw [srt_len] at this
      simpa using this
    rw [e1, e2] at ho
    refine ⟨u, tru bs top, rfl, tru_le bs top, fun x hx => (mem_tru.1 hx).1, ho, k2, fun W kW => ?_⟩
    exact refBlocked_any ((h.rn.nu k2).nu kW)
  · refine (blocked_nil w).mono ?_
    rintro e w2 ⟨rfl, rfl⟩
    have e0 : tru (fun _ => false) top = [] := by unfold tru; simp
    refine ⟨_, [], rfl, by simp, by simp, World.ownsRow_nil _ _ _ _, Kp.refl _ _, fun W kW => ?_⟩
    have := refBlocked_any (r.nu kW)
    rw [e0] at this
    exact this
theorem len_pair (h : Stt w0 w n p k) (hkb : k < 1599289640400) :
    Calls Try.prog 18 #[n] w fun e w' => ∃ M : Nat, e = .returned (.int .i64 (M : Int)) ∧ w' = w ∧ ∀ W, Kp Nu w W → Calls Try.prog 84 #[.pointer (some ⟨p, 0, none⟩)] W fun e w'' => ∃ ad cap, e = .returned (.slice ad M cap) ∧ Kp Nu W w'' := by
  rcases h with ⟨b, bm, nb, room, D, v, v2, c, L, H, bs, rfl, h⟩ | ⟨rfl, h, r⟩
  · refine (len_any h.nt).mono ?_
    rintro e w2 ⟨rfl, rfl⟩
    refine ⟨L.length, rfl, rfl, fun W kW => ?_⟩
    refine (places_any (h.rn.nu kW) (by have := h.hk; omega)).mono ?_
    rintro e w3 ⟨u, rfl, ho, k3⟩
    rw [h.al.length] at ho
    obtain ⟨ad, cap, rfl⟩ := own_slice ho
    exact ⟨ad, cap, rfl, k3⟩
  · refine (len_nil w).mono ?_
    rintro e w2 ⟨rfl, rfl⟩
    refine ⟨0, rfl, rfl, fun W kW => ?_⟩
    refine (places_any (r.nu kW) (by simp)).mono ?_
    rintro e w3 ⟨u, rfl, ho, k3⟩
    obtain ⟨ad, cap, rfl⟩ := own_slice ho
    exact ⟨ad, cap, rfl, k3⟩
/-- two lists that tell the same -/
structure Two' (w1 : World) (Lp : List Gm) (Lr : List Hg) : Prop where
  len : Lp.length = Lr.length
  at' : ∀ (i : Nat) (g : Gm) (x : Hg), Lp[i]? = some g → Lr[i]? = some x → x.f = g.f ∧ x.t = g.t ∧ x.ys = g.ys
theorem list_pair (h : Stt w0 w n p k) (hkb : k < 1599289640400) :
    Calls Try.prog 22 #[n] w fun e w' => ∃ (u : Value) (Lp : List Gm) (Lr : List Hg), e = .returned u ∧ Lp.length ≤ 4096 ∧ w'.ownsRow w.heap.size 38 3 u Lp.length (cells Lp) ∧ (∀ g ∈ Lp, Dg w' w.heap.size g) ∧ Two' w Lp Lr ∧ Kp Nu w w' ∧ ∀ W, Kp Nu w' W → Calls Try.prog 89 #[.pointer (some ⟨p, 0, none⟩)] W fun e w'' => ∃ u2, e = .returned u2 ∧ w''.ownsRow W.heap.size 120 4 u2 Lr.length (hcells Lr) ∧ (∀ x ∈ Lr, Dg w'' w0.heap.size x.gm) ∧ Kp Nu W w'' := by
  rcases h with ⟨b, bm, nb, room, D, v, v2, c, L, H, bs, rfl, h⟩ | ⟨rfl, h, r⟩
  · refine (list_any h.nt).mono ?_
    rintro e w2 ⟨u, rfl, ⟨L', ho, hT⟩, k2⟩
    have hl : L'.length = L.length := by have := congrArg List.length hT.same; simpa using this
    have al' : L'.map bare = (liv H).map hbare := hT.same.trans h.al
    refine ⟨u, L', liv H, rfl, by have := h.nt.len; have := h.nt.r1; omega, ho, hT.dat, ⟨by have := congrArg List.length al'; simpa using this, fun i g x hg hx => ?_⟩, k2, fun W kW => ?_⟩
    · have e : (L'.map bare)[i]? = ((liv H).map hbare)[i]? := by rw [al']
      rw [List.getElem?_map, List.getElem?_map, hg, hx] at e
      simp only [Option.map_some, Option.some.injEq, bare, hbare, Prod.mk.injEq] at e
      exact ⟨e.1.symm, e.2.1.symm, e.2.2.symm⟩
    · have hRW := (h.rn.nu k2).nu kW
      refine (refList_any hRW (by have := h.hk; omega)).mono ?_
      rintro e w3 ⟨u2, rfl, ho2, k3⟩
      exact ⟨u2, rfl, ho2, fun x hx => (hRW.nu k3).dat x ((List.mem_filter.1 hx).1), k3⟩
  · refine (list_nil w).mono ?_
    rintro e w2 ⟨rfl, rfl⟩
    refine ⟨_, [], [], rfl, by simp, World.ownsRow_nil _ _ _ _, by simp, ⟨rfl, fun i g x hg => by simp at hg⟩, Kp.refl _ _, fun W kW => ?_⟩
    refine (refList_any (r.nu kW) (by simp)).mono ?_
    rintro e w3 ⟨u2, rfl, ho2, k3⟩
    exact ⟨u2, rfl, ho2, by simp, k3⟩
theorem count_pair (h : Stt w0 w n p k) :
    Calls Try.prog 31 #[n] w fun e w' => ∃ c : Ct, e = .returned (.agg #[.int .i64 c.s, .int .i64 c.i, .int .i64 c.d, .int .i64 c.c, .int .i64 c.x, .int .i64 c.l, .int .i64 c.b]) ∧ Kp Nu w w' ∧ ∀ W, Kp Nu w' W → ∀ (j : Nat) (x : Int), (ctL c)[j]? = some x → W.cell? ⟨p, 65539 + j, none⟩ = some (.int .i64 x) := by
  rcases h with ⟨b, bm, nb, room, D, v, v2, c, L, H, bs, rfl, h⟩ | ⟨rfl, h, r⟩
  · refine (count_any h.nt).mono ?_
    rintro e w2 ⟨rfl, k2⟩
    exact ⟨c, rfl, k2, fun W kW j x hj => ((h.rn.nu k2).nu kW).cc hj⟩
  · refine (count_nil w).mono ?_
    rintro e w2 ⟨rfl, k2⟩
    exact ⟨Ct0, rfl, k2, fun W kW j x hj => ((r.nu k2).nu kW).cc hj⟩
end
end Go.Proofs.Ythajboipnjjgfaa.Ly
