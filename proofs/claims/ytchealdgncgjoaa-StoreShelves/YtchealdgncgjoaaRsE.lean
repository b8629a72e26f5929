import Derived.Test.YtchealdgncgjoaaRsB
import Derived.Deep.AppendLies
import Derived.Deep.RegionHeld3
namespace Go.Proofs.Ytchealdgncgjoaa.StU
open Go.RowKit Go.Proofs.Ytchealdgncgjoaa.St Go.Shelf
set_option linter.unusedVariables false
theorem info196 : (Try.prog.info? 196).map (fun i => (i.zero, i.size, i.bytes)) = some (some (.agg #[.int .u64 0, .slice none 0 0]), 2, 32) := by kernel_rfl
/-- a row of pairs that the document's shelf told -/
structure Cr (V : World) (B : Nat) (u : Sv) (L : List (Int × Sv)) (A : List KV) : Prop where
  own : V.ownsRow B 196 2 (.slice u.a u.n u.c) L.length (pc L)
  f : F2 (FV V) L A
  lo : ∀ p ∈ L, ∀ g, (sl p.2).ownBlock = some g → B ≤ g
theorem Cr.nu {V W : World} {B : Nat} {u : Sv} {L : List (Int × Sv)} {A : List KV} (h : Cr V B u L A) (k : Kp Nu V W) : Cr W B u L A :=
  ⟨own_keep h.own (fun g e => k.block g (own_lt h.own e) (fun e => e)), h.f.imp (fun p m hf => hf.keep k (fun _ _ hs => hs.elim)), h.lo⟩
theorem row196_low {V : World} {B : Nat} {n : Nat} {l : List Value} {v : Value} (h : V.ownsRow B 196 2 v n l) {g : Nat} (hg : v.ownBlock = some g) : B ≤ g := by
  rcases h.2 with ⟨rfl, h0⟩ | ⟨g', cap, cur, rfl, hb', hg', _⟩
  · cases hg
  · simp [Value.ownBlock] at hg; subst hg; exact hb'
theorem F2.snoc {α β : Type} {R : α → β → Prop} : ∀ {xs : List α} {zs : List β} {a : α} {b : β}, F2 R xs zs → R a b → F2 R (xs ++ [a]) (zs ++ [b])
  | [], [], a, b, _, h => ⟨h, trivial⟩
  | x :: xs, z :: zs, a, b, h1, h => ⟨h1.1, F2.snoc h1.2 h⟩
  | [], z :: zs, a, b, h1, h => h1.elim
  | x :: xs, [], a, b, h1, h => h1.elim
theorem Cr.app {w W w6 : World} {u u' : Sv} {n : Nat} {L : List (Int × Sv)} {A : List KV} {p : Int × Sv} {m : KV} (h : Cr W w.heap.size u L A) (hp : FV W p m) (hlo : ∀ g, (sl p.2).ownBlock = some g → w.heap.size ≤ g)
    (hown : w6.ownsRow w.heap.size 196 2 (.slice u'.a u'.n u'.c) n (pc L ++ [.int .u64 p.1, sl p.2])) (hn : n = L.length + 1) (k : Kp (fun i => some i = (Value.slice u.a u.n u.c).ownBlock) W w6) : Cr w6 w.heap.size u' (L ++ [p]) (A ++ [m]) := by
  have hS : ∀ i c, some i = (Value.slice u.a u.n u.c).ownBlock → W.heap[i]? ≠ some (.cells c 5 (0, 0)) := fun i c e hc => by
    obtain ⟨cur, h2⟩ := own_obj h.own e.symm
    rw [h2] at hc; cases hc
  refine ⟨?_, F2.snoc (h.f.imp (fun p m hf => hf.keep k hS)) (hp.keep k hS), fun q hq g hg => ?_⟩
  · rw [pc_snoc, List.length_append]
    subst hn
    exact hown
  · rcases List.mem_append.1 hq with hq | hq
    · exact h.lo q hq g hg
    · rw [List.mem_singleton.1 hq] at hg; exact hlo g hg
set_option maxRecDepth 100000 in
set_option maxHeartbeats 4000000 in
theorem in149 {w : World} {rb : Nat} {most : Int} {v : Sv} {L : List (Int × Sv)} {M : List KV} (h : Rs w rb most v L M) (lo hi : Int) : Calls Try.prog 149 #[.pointer (some ⟨rb, 0, none⟩), .int .u64 lo, .int .u64 hi] w fun e w' => ∃ (u : Sv) (L' : List (Int × Sv)), e = .returned (.slice u.a u.n u.c) ∧ Cr w' w.heap.size u L' (rg lo hi M) ∧ Kp Nu w w' := by
  have mixed : Try.prog.follows .mixedOrders = true := by kernel_rfl
  have c := (cell2 h.box).2
  have hn := h.n
  obtain ⟨N, eN⟩ : ∃ N, M.length = N := ⟨_, rfl⟩
  have hN : N ≤ 32768 := by have := h.lm; have := h.mo; omega
  rw [eN] at hn
  obtain ⟨va, vn, vc⟩ := v
  simp only at hn c
  subst hn
  have HH := hide (And.intro h (And.intro eN hN))
  have HC : Hid (∀ W, Kp Nu w W → W.cell? ⟨rb, 1, none⟩ = some (.slice va vn vc)) := hide (fun W k => (cell2 (h.nu k).box).2)
  clear h eN hN
  obtain ⟨i1, hi0, hz0, hz1, hz2⟩ := info_parts info196
  go_enter Try.func149, Try.ntmps149
  go_wp2_with fail
  go_loopw [7, 8] (fun lv it wr => ∃ (i : Nat) (u : Sv), it = .int .i64 (i : Int) ∧ lv = .slice u.a u.n u.c ∧ i ≤ vn ∧ Hid (∃ L', Cr wr w.heap.size u L' (rg lo hi (M.take i)) ∧ Kp Nu w wr)) (fun _ it _ => vn - (intOf it).toNat)
  case atStart => exact ⟨0, ⟨none, 0, 0⟩, rfl, rfl, Nat.zero_le _, [], ⟨own_nil', trivial, fun p hp => by cases hp⟩, Kp.refl _ _⟩
  case round =>
    obtain ⟨i, ⟨ua, un, uc⟩, rfl, rfl, hiv, HI⟩ := hrel
    obtain ⟨L', hcr, kw⟩ := HI.out
    have c := HC.out wr kw
    by_cases hlt : i < vn
    · obtain ⟨m, hm⟩ : ∃ m, M[i]? = some m := ⟨_, List.getElem?_eq_getElem (by rw [HH.out.2.1]; exact hlt)⟩
      obtain ⟨p, r, hp, hf, er, d0, d1⟩ := (HH.out.1.nu kw).at_ hm
      simp only at er
      subst er
      have hltI : (i : Int) < (vn : Int) := by omega
      have hi00 : (0 : Int) ≤ (i : Int) := by omega
      have hwi : wrap64 ((i : Int) + 1) = ((i + 1 : Nat) : Int) := by have := HH.out.2.2; unfold wrap64; omega
      have HD : Hid (∀ W, Kp Nu w W → W.cell? ⟨rb, 1, none⟩ = some (.slice (some ⟨r, 0, none⟩) vn vc) ∧ W.cell? ⟨r, i * 2, none⟩ = some (.int .u64 m.1) ∧ W.cell? ⟨r, i * 2 + 1, none⟩ = some (.slice p.2.a p.2.n p.2.c)) := hide (fun W k => by
        obtain ⟨p', r', hp', _, er', e0, e1⟩ := (HH.out.1.nu k).at_ hm
        rw [hp] at hp'; cases hp'; cases er'
        exact ⟨HC.out W k, e0, e1⟩)
      have hrg : rg lo hi (M.take (i + 1)) = rg lo hi (M.take i) ++ rg lo hi [m] := by
        rw [List.take_add_one, hm]; exact List.filter_append _ _
      have HW := hide (And.intro hlt (And.intro hwi (And.intro hrg (And.intro hcr (And.intro kw hf)))))
      by_cases hin : lo ≤ m.1 ∧ m.1 ≤ hi
      · obtain ⟨hg1, hg2⟩ := hin
        have hun : un = L'.length := by
          obtain ⟨ad, cap, e⟩ := own_slice hcr.own
          exact (Value.slice.inj e).2.1
        have HL := hide hun
        have HUN : Hid (un ≤ 32768) := by
          have h1 : (rg lo hi (M.take i)).length ≤ (M.take i).length := List.length_filter_le _ _
          have h2 := hcr.f.length
          have h3 := HH.out.2
          show un ≤ 32768
          rw [List.length_take] at h1
          omega
        have HO : Hid (∀ W, Kp Nu wr W → W.ownsRow w.heap.size 196 2 (.slice ua un uc) un (pc L')) := hide (fun W k => by
          have := (hcr.nu k).own
          rw [← hun] at this
          exact this)
        have CC : ∀ W, Kp Nu wr W → Calls Try.prog 184 #[.slice p.2.a p.2.n p.2.c] W fun e w' => ∃ q : Sv, e = .returned (.slice q.a q.n q.c) ∧ Hid (FV w' (m.1, q) m ∧ (∀ g, (sl q).ownBlock = some g → w.heap.size ≤ g)) ∧ Kp Nu wr w' := fun W k => by
          refine (copied184 W _ m.2 (hf.rd.nu k) (by have := hf.2.2.1; omega)).mono ?_
          rintro e w' ⟨q, e1, e2, e3⟩
          exact ⟨q, e1, ⟨⟨rfl, own_base e2 (Nat.zero_le _), hf.2.2⟩, fun g hg => Nat.le_trans (kw.andNu k).size (row5_low e2 hg)⟩, k.andNu e3⟩
        have HM := hide (show rg lo hi [m] = [m] from List.filter_eq_self.2 (fun q hq => by
          rw [List.mem_singleton.1 hq]
          unfold inR
          simp
          omega))
        obtain ⟨mk, my⟩ := m
        simp only at hg1 hg2 d0 HD CC
        obtain ⟨pk, ⟨pa, pn, pcc⟩⟩ := p
        simp only at d1 HD CC
        clear hm hp hf hrg hcr hwi hlt hiv HI hun
        go_wp2_with fail
        go_region_held3 (fun W => W.cell? ⟨rb, 1, none⟩ = some (.slice (some ⟨r, 0, none⟩) vn vc) ∧ W.cell? ⟨r, i * 2, none⟩ = some (.int .u64 mk) ∧ W.cell? ⟨r, i * 2 + 1, none⟩ = some (.slice pa pn pcc)) (first | (refine HD.out _ ?_; first | assumption | exact Kp.drew kw | exact kw.andNu (Kp.drew kr3) | exact kw.andNu (kr3.andNu (Kp.alloc _ _ _))))
          (first
            | (go_at_call 184; refine (CC _ (Kp.drew (Kp.refl Nu wr))).mono ?_; rintro e w3 ⟨⟨qa, qn, qc⟩, rfl, hq3, kr3⟩; have kw3 := kw.andNu kr3)
            | (refine step_append_lies _ ?x0 (.tmp 43) (.tmp 62) 123 ?x1 w.heap.size 196 i1 (.agg #[.int .u64 0, .slice none 0 0]) 2 32 Try.underlying123 hi0 hz0 hz1 hz2 rfl (by decide) (.slice ua un uc) un (pc L') ?x2 (HO.out _ (kr3.andNu (Kp.alloc _ _ _))) ⟨w3.heap.size, 0, none⟩ 1 1 [.int .u64 mk, .slice qa qn qc] ?x3 rfl (cells_two_new _ _ _ _) (by intro x hx; simp at hx; rcases hx with rfl | rfl <;> rfl) (by decide) (by have := HUN.out; unfold maxLen; omega) (by have := HUN.out; omega) (by have := kw3.size; simp; omega) _ rfl ?x4; (case x0 => rfl); (case x1 => rfl); (case x2 => rfl); (case x3 => rfl); intro g gc w6 hown hgrow hlie hglt; have k6 : Kp Nu w w6 := (kw3.andNu (Kp.alloc _ _ _)).trans (Kp.of_grown hgrow) (fun i hi e => by have := row196_low (HO.out _ (Kp.refl _ _)) e.symm; omega)))
        have HF : Hid (∃ L', Cr w6 w.heap.size ⟨some ⟨g, 0, none⟩, un + 1, gc⟩ L' (rg lo hi (M.take (i + 1))) ∧ Kp Nu w w6) := by
          obtain ⟨h1, h2, h3, h4, h5, h6⟩ := HW.out
          refine ⟨L' ++ [(mk, ⟨qa, qn, qc⟩)], ?_, k6⟩
          rw [h3, HM.out]
          have kq : Kp Nu wr (w3.alloc (.cells #[.int .u64 mk, .slice qa qn qc] 196)) := kr3.andNu (Kp.alloc _ _ _)
          exact Cr.app (W := w3.alloc (.cells #[.int .u64 mk, .slice qa qn qc] 196)) (p := (mk, ⟨qa, qn, qc⟩)) (n := un + 1) (h4.nu kq) (hq3.out.1.keep (Kp.alloc _ _ Nu) (fun _ _ hs => hs.elim)) hq3.out.2 hown (by rw [HL.out]) (Kp.of_grown hgrow)
        clear hown hgrow hlie hglt hq3 HO HD CC c d0 d1 mixed
        go_wp2
        exact ⟨⟨i + 1, ⟨some ⟨g, 0, none⟩, un + 1, gc⟩, by rw [HW.out.2.1], rfl, HW.out.1, HF⟩, lt_mi HW.out.2.1 HW.out.1⟩
      · have HF : Hid (∃ L', Cr wr w.heap.size ⟨ua, un, uc⟩ L' (rg lo hi (M.take (i + 1))) ∧ Kp Nu w wr) := by
          refine ⟨L', ?_, kw⟩
          have e : rg lo hi [m] = [] := List.filter_eq_nil_iff.2 (fun q hq => by
            rw [List.mem_singleton.1 hq]
            unfold inR
            simp
            omega)
          rw [hrg, e, List.append_nil]
          exact hcr
        have hb : decide (lo ≤ m.1) = false ∨ (lo ≤ m.1 ∧ decide (m.1 ≤ hi) = false) := by
          by_cases h1 : lo ≤ m.1
          · exact .inr ⟨h1, decide_eq_false (fun h2 => hin ⟨h1, h2⟩)⟩
          · exact .inl (decide_eq_false h1)
        generalize m.1 = mk at *
        clear hm hp hf hrg hin hcr hwi hlt hiv HI mixed
        rcases hb with hb | ⟨hb1, hb⟩
        · go_wp2
          exact ⟨⟨i + 1, ⟨ua, un, uc⟩, by rw [HW.out.2.1], rfl, HW.out.1, HF⟩, lt_mi HW.out.2.1 HW.out.1⟩
        · go_wp2
          exact ⟨⟨i + 1, ⟨ua, un, uc⟩, by rw [HW.out.2.1], rfl, HW.out.1, HF⟩, lt_mi HW.out.2.1 HW.out.1⟩
    · obtain rfl : i = vn := by omega
      rw [List.take_of_length_le (by rw [HH.out.2.1]; exact Nat.le_refl _)] at hcr
      have HZ := hide (And.intro hcr kw)
      have hnl : ¬ (i : Int) < (i : Int) := by omega
      clear hcr kw HI hlt hiv mixed
      go_wp2
      go_ret
      exact ⟨⟨ua, un, uc⟩, rfl, ⟨L', HZ.out.1⟩, HZ.out.2⟩
end Go.Proofs.Ytchealdgncgjoaa.StU
namespace Go.Proofs.Ytchealdgncgjoaa.StU
open Go.RowKit Go.Proofs.Ytchealdgncgjoaa.St Go.Shelf
set_option linter.unusedVariables false
theorem F2.at2 {α β : Type} {R : α → β → Prop} : ∀ {xs : List α} {zs : List β} {j : Nat} {a : α} {b : β}, F2 R xs zs → xs[j]? = some a → zs[j]? = some b → R a b
  | [], _, j, a, b, _, h, _ => by simp at h
  | x :: xs, [], j, a, b, h, _, _ => h.elim
  | x :: xs, z :: zs, 0, a, b, h, h1, h2 => by simp at h1 h2; subst h1; subst h2; exact h.1
  | x :: xs, z :: zs, j + 1, a, b, h, h1, h2 => F2.at2 h.2 (by simpa using h1) (by simpa using h2)
theorem Cr.n {V : World} {B : Nat} {u : Sv} {L : List (Int × Sv)} {A : List KV} (h : Cr V B u L A) : u.n = A.length := by
  obtain ⟨ad, cap, e⟩ := own_slice h.own
  rw [(Value.slice.inj e).2.1, h.f.length]
theorem Cr.at_ {V : World} {B : Nat} {u : Sv} {L : List (Int × Sv)} {A : List KV} (h : Cr V B u L A) {j : Nat} {m : KV} (hj : A[j]? = some m) : ∃ p r, L[j]? = some p ∧ FV V p m ∧ u.a = some ⟨r, 0, none⟩ ∧ V.cell? ⟨r, j * 2, none⟩ = some (.int .u64 m.1) ∧ V.cell? ⟨r, j * 2 + 1, none⟩ = some (.slice p.2.a p.2.n p.2.c) := by
  obtain ⟨p, hp⟩ : ∃ p, L[j]? = some p := ⟨_, List.getElem?_eq_getElem (by rw [h.f.length]; exact (List.getElem?_eq_some_iff.1 hj).1)⟩
  obtain ⟨q0, q1⟩ := pc_at L j p hp
  obtain ⟨r, cap, e, _, d0, d1⟩ := pair_at h.own q0 q1
  have hf : FV V p m := h.f.at2 hp hj
  rw [hf.1] at d0
  exact ⟨p, r, hp, hf, (Value.slice.inj e).1, d0, d1⟩
section
variable {w : World} {rb : Nat} {most : Int} {v : Sv} {L : List (Int × Sv)} {M : List KV}
theorem in_k (h : Rs w rb most v L M) (lo hi : Int) : Calls Try.prog 149 #[.pointer (some ⟨rb, 0, none⟩), .int .u64 lo, .int .u64 hi] w fun e w' => ∃ ua uc, e = .returned (.slice ua (rg lo hi M).length uc) ∧ Hid ((∃ L', Cr w' w.heap.size ⟨ua, (rg lo hi M).length, uc⟩ L' (rg lo hi M)) ∧ Kp Nu w w') := by
  refine (in149 h lo hi).mono ?_
  rintro e w' ⟨⟨ua, un, uc⟩, L', e1, e2, e3⟩
  have hn : un = (rg lo hi M).length := e2.n
  subst hn
  exact ⟨ua, uc, e1, ⟨L', e2⟩, e3⟩
set_option maxHeartbeats 400000 in
theorem count144 (h : Rs w rb most v L M) (lo hi : Int) : Calls Try.prog 144 #[.pointer (some ⟨rb, 0, none⟩), .int .u64 lo, .int .u64 hi] w fun e w' => e = .returned (.int .i64 ((rg lo hi M).length : Int)) ∧ Kp Nu w w' := by
  have IN := in_k h lo hi
  generalize (rg lo hi M).length = K at *
  clear h
  go_enter Try.func144, Try.ntmps144
  go_wp2_with (go_at_call 149; refine IN.mono ?_; rintro e w1 ⟨ua, uc, rfl, H1⟩)
  go_ret
  exact ⟨rfl, H1.out.2⟩
set_option maxHeartbeats 1000000 in
theorem nth_no145 (h : Rs w rb most v L M) (lo hi i : Int) (hi0 : i < 0 ∨ ((rg lo hi M).length : Int) ≤ i) : Calls Try.prog 145 #[.pointer (some ⟨rb, 0, none⟩), .int .u64 lo, .int .u64 hi, .int .i64 i] w fun e w' => e = .returned (.tuple #[.int .u64 0, .bool false]) ∧ Kp Nu w w' := by
  have IN := in_k h lo hi
  generalize (rg lo hi M).length = K at *
  clear h
  by_cases h0 : i < 0
  · clear hi0
    go_enter Try.func145, Try.ntmps145
    go_wp2_with (go_at_call 149; refine IN.mono ?_; rintro e w1 ⟨ua, uc, rfl, H1⟩)
    go_ret2
    exact ⟨rfl, H1.out.2⟩
  · have h1 : (K : Int) ≤ i := by omega
    clear hi0
    go_enter Try.func145, Try.ntmps145
    go_wp2_with (go_at_call 149; refine IN.mono ?_; rintro e w1 ⟨ua, uc, rfl, H1⟩)
    go_ret2
    exact ⟨rfl, H1.out.2⟩
set_option maxHeartbeats 1000000 in
theorem nth_yes145 (h : Rs w rb most v L M) (lo hi : Int) (i : Nat) (m : KV) (hm : (rg lo hi M)[i]? = some m) : Calls Try.prog 145 #[.pointer (some ⟨rb, 0, none⟩), .int .u64 lo, .int .u64 hi, .int .i64 (i : Int)] w fun e w' => e = .returned (.tuple #[.int .u64 m.1, .bool true]) ∧ Kp Nu w w' := by
  have hlt := (List.getElem?_eq_some_iff.1 hm).1
  have IN : Calls Try.prog 149 #[.pointer (some ⟨rb, 0, none⟩), .int .u64 lo, .int .u64 hi] w fun e w' => ∃ r uc, e = .returned (.slice (some ⟨r, 0, none⟩) (rg lo hi M).length uc) ∧ w'.cell? ⟨r, i * 2, none⟩ = some (.int .u64 m.1) ∧ Hid (Kp Nu w w') := by
    refine (in_k h lo hi).mono ?_
    rintro e w' ⟨ua, uc, e1, e2⟩
    obtain ⟨L', hc⟩ := e2.out.1
    obtain ⟨p, r, _, _, er, d0, _⟩ := hc.at_ hm
    simp only at er
    subst er
    exact ⟨r, uc, e1, d0, e2.out.2⟩
  generalize (rg lo hi M).length = K at *
  generalize m.1 = mk at *
  have h0 : ¬ (i : Int) < 0 := by omega
  have h1 : ¬ (K : Int) ≤ (i : Int) := by omega
  have hltI : (i : Int) < (K : Int) := by omega
  have hi0 : (0 : Int) ≤ (i : Int) := by omega
  clear h hm hlt
  go_enter Try.func145, Try.ntmps145
  go_wp2_with (go_at_call 149; refine IN.mono ?_; rintro e w1 ⟨r, uc, rfl, d0, H1⟩)
  go_ret2
  exact ⟨rfl, H1.out⟩
set_option maxHeartbeats 1000000 in
theorem get140 (h : Rs w rb most v L M) (k : Int) : Calls Try.prog 140 #[.pointer (some ⟨rb, 0, none⟩), .int .u64 k] w fun e w' => ∃ q : Sv, e = .returned (.tuple #[.slice q.a q.n q.c, .bool (hs k M)]) ∧ w'.ownsRow w.heap.size 5 1 (.slice q.a q.n q.c) (gtM k M).length (cs (gtM k M)) ∧ Kp Nu w w' := by
  cases hk : hs k M with
  | false =>
    have FA := find183 h k (-1) (by rw [hk]; rfl)
    have hg := gtM_no hk
    rw [hg]
    clear h hk hg
    go_enter Try.func140, Try.ntmps140
    go_wp2_with (go_at_call 183; refine FA.mono ?_; rintro e w1 ⟨rfl, hw⟩; obtain rfl := hw.symm)
    go_ret2
    exact ⟨⟨none, 0, 0⟩, rfl, own_nil', Kp.refl _ _⟩
  | true =>
    obtain ⟨m, hm, em, gm⟩ := h.ris.at_key hk
    obtain ⟨i, hi⟩ := List.mem_iff_getElem?.1 hm
    have hpl := h.ris.pl hi
    rw [em] at hpl
    have FA := find183 h k (i : Int) (by rw [hk, hpl]; rfl)
    have c := (cell2 h.box).2
    obtain ⟨p, r, hp, hf, er, d0, d1⟩ := h.at_ hi
    have hn := h.n
    obtain ⟨va, vn, vc⟩ := v
    simp only at er hn c
    subst er
    have hlt : i < vn := by rw [hn]; exact (List.getElem?_eq_some_iff.1 hi).1
    have CA := copied184 w _ m.2 hf.rd (by have := hf.2.2.1; omega)
    have hltI : (i : Int) < (vn : Int) := by omega
    have hi0 : (0 : Int) ≤ (i : Int) := by omega
    have h0 : ¬ (i : Int) < 0 := by omega
    rw [gm]
    obtain ⟨pk, ⟨pa, pn, pcc⟩⟩ := p
    clear h hk hm em gm hi hpl hp hf hn hlt d0
    go_enter Try.func140, Try.ntmps140
    go_wp2_with (first
      | (go_at_call 183; refine FA.mono ?_; rintro e w1 ⟨rfl, hw⟩; obtain rfl := hw.symm)
      | (go_at_call 184; refine CA.mono ?_; rintro e w2 ⟨q, rfl, hq, kq⟩))
    go_ret2
    exact ⟨q, rfl, hq, kq⟩
end
end Go.Proofs.Ytchealdgncgjoaa.StU
namespace Go.Proofs.Ytchealdgncgjoaa.StU
open Go.RowKit Go.Proofs.Ytchealdgncgjoaa.St Go.Shelf
set_option linter.unusedVariables false
theorem sumB_take (M : List KV) (i : Nat) (m : KV) (h : M[i]? = some m) : sumB (M.take (i + 1)) = sumB (M.take i) + m.2.length := by
  rw [List.take_add_one, h, sumB_app]
  rfl
section
variable {w : World} {rb : Nat} {most : Int} {v : Sv} {L : List (Int × Sv)} {M : List KV}
theorem Rs.sumb (h : Rs w rb most v L M) : sumB M ≤ 2097152 := by
  have h1 := sumB_le M (fun m hm => by obtain ⟨p, _, hp⟩ := h.f.mem m hm; exact hp.2.2.1)
  have := h.lm; have := h.mo; omega
set_option maxHeartbeats 1000000 in
theorem rbytes143 (h : Rs w rb most v L M) : Calls Try.prog 143 #[.pointer (some ⟨rb, 0, none⟩)] w fun e w' => e = .returned (.int .i64 (sumB M : Int)) ∧ w' = w := by
  have c := (cell2 h.box).2
  have hn := h.n
  obtain ⟨N, eN⟩ : ∃ N, M.length = N := ⟨_, rfl⟩
  have hN : N ≤ 32768 := by have := h.lm; have := h.mo; omega
  rw [eN] at hn
  obtain ⟨va, vn, vc⟩ := v
  simp only at hn c
  subst hn
  have HH := hide (And.intro h (And.intro eN hN))
  clear h eN hN
  go_enter Try.func143, Try.ntmps143
  go_wp2_with fail
  go_loopw [3, 4] (fun nv it wr => ∃ i : Nat, it = .int .i64 (i : Int) ∧ nv = .int .i64 (sumB (M.take i) : Int) ∧ i ≤ vn ∧ wr = w) (fun _ it _ => vn - (intOf it).toNat)
  case atStart => exact ⟨0, rfl, rfl, Nat.zero_le _, rfl⟩
  case round =>
    obtain ⟨i, rfl, rfl, hiv, rfl⟩ := hrel
    by_cases hlt : i < vn
    · obtain ⟨m, hm⟩ : ∃ m, M[i]? = some m := ⟨_, List.getElem?_eq_getElem (by rw [HH.out.2.1]; exact hlt)⟩
      obtain ⟨p, r, hp, hf, er, d0, d1⟩ := HH.out.1.at_ hm
      simp only at er
      subst er
      have hs := sumB_take M i m hm
      have hle : sumB (M.take (i + 1)) ≤ 2097152 := by
        have h1 := HH.out.1.sumb
        have h2 := sumB_app (M.take (i + 1)) (M.drop (i + 1))
        rw [List.take_append_drop] at h2
        omega
      have hpn := hf.n
      obtain ⟨pk, ⟨pa, pn, pcc⟩⟩ := p
      simp only at hpn d1
      have hltI : (i : Int) < (vn : Int) := by omega
      have hi0 : (0 : Int) ≤ (i : Int) := by omega
      have hwi : wrap64 ((i : Int) + 1) = ((i + 1 : Nat) : Int) := by have := HH.out.2.2; unfold wrap64; omega
      have hws : wrap64 ((sumB (M.take i) : Int) + (pn : Int)) = (sumB (M.take (i + 1)) : Int) := by unfold wrap64; omega
      have HW := hide (And.intro hlt (And.intro hwi hws))
      clear hm hp hf hs hle hpn hwi hws hlt hiv d0
      generalize hS1 : (sumB (M.take (i + 1)) : Int) = s1 at *
      generalize (sumB (M.take i) : Int) = s0 at *
      go_wp2
      exact ⟨⟨i + 1, by rw [HW.out.2.1], by rw [HW.out.2.2, hS1], HW.out.1, trivial⟩, lt_mi HW.out.2.1 HW.out.1⟩
    · obtain rfl : i = vn := by omega
      rw [List.take_of_length_le (by rw [HH.out.2.1]; exact Nat.le_refl _)]
      have hnl : ¬ (i : Int) < (i : Int) := by omega
      clear hlt hiv
      go_wp2
      go_ret
      exact ⟨rfl, rfl⟩
end
end Go.Proofs.Ytchealdgncgjoaa.StU
