import Derived.Test.YtchealdgncgjoaaRsB
import Derived.Deep.AppendLies
namespace Go.Proofs.Ytchealdgncgjoaa.StU
open Go.RowKit Go.Proofs.Ytchealdgncgjoaa.St Go.Shelf
set_option linter.unusedVariables false
set_option linter.unusedSimpArgs false
theorem wq (k : Int) (h0 : 0 ≤ k) (h1 : k ≤ 140737488355328) : wrap64 (k + 1) = k + 1 := by unfold wrap64; omega
theorem sq {k N : Nat} (h : k < N) : k + 1 ≤ N := by omega
theorem mq {k N : Nat} (h : k < N) : N - (intOf (.int .i64 ((k : Int) + 1))).toNat < N - (intOf (.int .i64 (k : Int))).toNat := by simp [intOf]; omega
theorem row_at1 {w : World} {B e : Nat} {v : Value} {n i : Nat} {l : List Value} {u : Value} (h : w.ownsRow B e 1 v n l) (hi : l[i]? = some u) : ∃ r cap, v = .slice (some ⟨r, 0, none⟩) n cap ∧ w.cell? ⟨r, i, none⟩ = some u := by
  have hlt : i < l.length := (List.getElem?_eq_some_iff.1 hi).1
  have hn : l.length = n := by have := h.1; omega
  rcases h.2 with ⟨_, h0⟩ | ⟨r, cap, cur, e, hB, hg, h1, h2, h3, h4⟩
  · omega
  · refine ⟨r, cap, e, ?_⟩
    have e1 : cur.toList[i]? = some u := by
      rw [← h4, List.getElem?_take_of_lt (by omega)] at hi
      exact hi
    simpa [World.cell?, hg] using e1
theorem own_set1 {w : World} {B e n i : Nat} {r cap : Nat} {l : List Value} (h : w.ownsRow B e 1 (.slice (some ⟨r, 0, none⟩) n cap) n l) (u : Value) : (w.setCell ⟨r, i, none⟩ u).ownsRow B e 1 (.slice (some ⟨r, 0, none⟩) n cap) n (l.set i u) := by
  refine ⟨by simpa using h.1, ?_⟩
  rcases h.2 with ⟨e, h0⟩ | ⟨g, cap', cur, e, hb, hg, h1, h2, h3, h4⟩
  · cases e
  · cases e
    refine .inr ⟨r, cap, cur.setIfInBounds i u, rfl, hb, set3 hg i u, h1, h2, by simpa using h3, ?_⟩
    rw [Array.toList_setIfInBounds, ← h4, List.take_set]
/-- a list that its holder grows: only its own block, or new ones -/
structure Sp (w W : World) (B : Nat) (v0 v : Value) (n : Nat) : Prop where
  kp : Kp (fun i => some i = v0.ownBlock) w W
  ow : ∃ l, W.ownsRow B 5 1 v n l ∧ l.length = n
  bl : ∀ q, v.ownBlock = some q → some q = v0.ownBlock ∨ w.heap.size ≤ q
theorem Sp.grow {w W W4 : World} {B g2 cap n : Nat} {v0 v u : Value} {l : List Value} {o : Obj} (h : Sp w W B v0 v n) (hl : l.length = n) (hg : (W.alloc o).grownBy W4 v.ownBlock) (ho : W4.ownsRow B 5 1 (.slice (some ⟨g2, 0, none⟩) (n + 1) cap) (n + 1) (l ++ [u])) (hat : v.ownBlock = some g2 ∨ g2 = W.heap.size + 1) :
    Sp w W4 B v0 (.slice (some ⟨g2, 0, none⟩) (n + 1) cap) (n + 1) := by
  refine ⟨(h.kp.trans (Kp.alloc W o (fun i => some i = v0.ownBlock)) (fun _ _ e => e)).trans (Kp.of_grown hg) (fun i hi e => ?_), ⟨_, ho, by simp [hl]⟩, fun q hq => ?_⟩
  · rcases h.bl i e.symm with e2 | e2
    · exact e2
    · omega
  · have hq : g2 = q := by simpa [Value.ownBlock] using hq
    rcases hat with e | e
    · rw [hq] at e; exact h.bl q e
    · have := h.kp.size; exact .inr (by omega)
set_option maxRecDepth 100000 in
set_option maxHeartbeats 4000000 in
theorem spoil139 {w : World} {B : Nat} {u : Sv} {l : List Value} (m : Int) (hm : 0 ≤ m ∧ m ≤ 200) (h : w.ownsRow B 5 1 (sl u) u.n l) (hB : B ≤ w.heap.size) (hl : u.n ≤ 140737488355300) :
    Calls Try.prog 139 #[sl u, .int .u8 m] w fun e w' => (∃ v, e = .returned v) ∧ Kp (fun i => some i = (sl u).ownBlock) w w' := by
  obtain ⟨i5, hi5, hy0, hy1, hy2⟩ := info_parts info5R
  obtain ⟨ua, N, uc⟩ := u
  simp only [sl] at h hl ⊢
  have hll : l.length = N := by have := h.1; omega
  have HH := hide (And.intro hB hl)
  generalize e0 : (Value.slice ua N uc).ownBlock = ob at *
  have H0 : Hid (Kp (fun i => some i = ob) w w ∧ ∃ l', w.ownsRow B 5 1 (.slice ua N uc) N l' ∧ l'.length = N) := hide ⟨Kp.refl _ _, l, h, hll⟩
  have E0 := hide e0
  have w2 : IntKind.u8.wrap (m + 1) = m + 1 := by rw [IntKind.wrap_u8]; omega
  clear h hll hB hl hm e0
  go_enter Try.func139, Try.ntmps139
  go_wp2_with fail
  go_loopw [4] (fun s4 wr => ∃ j : Nat, s4 = .int .i64 (j : Int) ∧ j ≤ N ∧ Hid (Kp (fun i => some i = ob) w wr ∧ ∃ l', wr.ownsRow B 5 1 (.slice ua N uc) N l' ∧ l'.length = N)) (fun s4 _ => N - (intOf s4).toNat)
  case atStart => exact ⟨0, rfl, Nat.zero_le _, H0.out⟩
  case round =>
    clear H0
    obtain ⟨j, rfl, hj, hh⟩ := hrel
    by_cases hlt : j < N
    · obtain ⟨kw, l', ho, hl'⟩ := hh.out
      obtain ⟨u, hu⟩ : ∃ u, l'[j]? = some u := ⟨_, List.getElem?_eq_getElem (by omega)⟩
      obtain ⟨r, cap, e, hc⟩ := row_at1 (i := j) (u := u) ho hu
      cases e
      obtain ⟨cur, hcur⟩ := own_obj ho rfl
      have f1 := free3 hcur j
      have hltI : (j : Int) < (N : Int) := by omega
      have hj0 : (0 : Int) ≤ (j : Int) := by omega
      have w1 := wq (j : Int) hj0 (by have := HH.out; omega)
      have hob : some r = ob := by rw [← E0.out]; rfl
      have HN : Hid ((Kp (fun i => some i = ob) w (wr.setCell ⟨r, j, none⟩ (.int .u8 m)) ∧ ∃ l', (wr.setCell ⟨r, j, none⟩ (.int .u8 m)).ownsRow B 5 1 (.slice (some ⟨r, 0, none⟩) N uc) N l' ∧ l'.length = N) ∧ j < N) := hide ⟨⟨kw.trans (Kp.setCell wr ⟨r, j, none⟩ _) (fun i _ e => by have e : i = r := e; rw [e]; exact hob), _, own_set1 ho (.int .u8 m), by simp [hl']⟩, hlt⟩
      clear kw ho hl' hu hcur hj hlt hh hob
      go_wp2_with fail
      rw [w1]
      exact ⟨⟨j + 1, by go_num, sq HN.out.2, hide HN.out.1⟩, mq HN.out.2⟩
    · obtain rfl : j = N := by omega
      have hge : ¬ (j : Int) < (j : Int) := by omega
      have HS : Hid (Sp w wr B (.slice ua j uc) (.slice ua j uc) (j + 0)) := hide ⟨by rw [E0.out]; exact hh.out.1, hh.out.2, fun q hq => .inl hq.symm⟩
      clear hh hj hlt
      go_wp2_with fail
      clear hge
      go_loopw [5, 0] (fun s5 s0 wr2 => ∃ (i : Nat) (va : Value), s5 = .int .i64 (i : Int) ∧ va = s0 ∧ i ≤ 20 ∧ Hid (Sp w wr2 B (.slice ua j uc) va (j + i))) (fun s5 _ _ => 20 - (intOf s5).toNat)
      case atStart => exact ⟨0, _, rfl, rfl, by omega, HS⟩
      case round =>
        clear HS
        generalize wr = wz at *
        obtain ⟨i, va, rfl, rfl, hi, hS⟩ := hrel
        by_cases hlt : i < 20
        · obtain ⟨l', ho, hl'⟩ := hS.out.ow
          have kA := Kp.alloc wz (.cells #[.int .u8 (m + 1)] 5) Nu
          have oA : (wz.alloc (.cells #[.int .u8 (m + 1)] 5)).ownsRow B 5 1 va (j + i) l' := own_keep ho (fun q hq => kA.block q (own_lt ho hq) (fun h => h))
          have hltI : (i : Int) < 20 := by omega
          have hi0 : (0 : Int) ≤ (i : Int) := by omega
          have w1 := wq (i : Int) hi0 (by omega)
          have HA := hide (And.intro oA (And.intro hS.out (And.intro hl' hlt)))
          have HB : Hid (j + i + 1 ≤ maxLen ∧ (j + i + 1) * 1 ≤ 140737488355328 ∧ B ≤ wz.heap.size + 1) := hide ⟨by have := HH.out.2; unfold maxLen; omega, by have := HH.out.2; omega, by have h1 := HH.out.1; have h2 := hS.out.kp.size; omega⟩
          clear ho hl' oA kA hi hlt hS
          go_wp2_with (at_builtin; refine wpList_append_lies _ rfl (.tmp 20) (.tmp 23) 74 rfl B 5 i5 (.int .u8 0) 1 1 Try.underlying74 hi5 hy0 hy1 hy2 rfl (by decide) va (j + i) l' rfl HA.out.1 ⟨wz.heap.size, 0, none⟩ 1 1 [.int .u8 (m + 1)] rfl rfl (cell_one_new wz _ 5) (by simp [Value.oneCell']) (by decide) HB.out.1 HB.out.2.1 (by rw [World.size_alloc]; exact HB.out.2.2) (wz.heap.size + 1) (World.size_alloc _ _) ?_; intro g2 gcap w4 ho hg hgat hglt; have hW := hide (HA.out.2.1.grow HA.out.2.2.1 hg ho hgat); clear ho hg hgat hglt)
          exact ⟨⟨i + 1, _, by go_num, rfl, by have := HA.out.2.2.2; omega, hW⟩, mq HA.out.2.2.2⟩
        · obtain rfl : i = 20 := by omega
          have HK : Hid (Kp (fun i => some i = ob) w wz) := hide (by rw [← E0.out]; exact hS.out.kp)
          clear hS hi hlt
          go_wp2_with fail
          go_end0
          exact ⟨⟨_, rfl⟩, HK.out⟩
/-- a list with room behind it that holds marks -/
def Rm (W : World) (B : Nat) (v : Sv) (ys : List Int) : Prop := v.n = ys.length ∧ W.ownsRow B 5 1 (.slice v.a (ys.length + 16) v.c) (ys.length + 16) (cs (ys ++ List.replicate 16 165))
theorem Rm.nu {V W : World} {B : Nat} {v : Sv} {ys : List Int} (h : Rm V B v ys) (k : Kp Nu V W) : Rm W B v ys :=
  ⟨h.1, own_keep h.2 (fun g e => k.block g (own_lt h.2 e) (fun e => e))⟩
theorem Rm.own {W : World} {B : Nat} {v : Sv} {ys : List Int} (h : Rm W B v ys) : W.ownsRow B 5 1 (sl v) v.n (cs ys) := by
  obtain ⟨va, vn, vc⟩ := v
  obtain ⟨e, h⟩ := h
  simp only at e h
  subst e
  refine ⟨by simp [cs], ?_⟩
  rcases h.2 with ⟨_, h0⟩ | ⟨r, cap, cur, e, hB, hg, h1, h2, h3, h4⟩
  · omega
  · cases e
    refine .inr ⟨r, vc, cur, rfl, hB, hg, by show ys.length ≤ vc; omega, h2, h3, ?_⟩
    have h5 := congrArg (List.take (ys.length * 1)) h4
    rw [List.take_take, Nat.min_eq_left (by omega)] at h5
    rw [h5]
    simp [cs]
theorem Rm.rd {W : World} {B : Nat} {v : Sv} {ys : List Int} (h : Rm W B v ys) : Rd W (sl v) ys := by
  have h1 := h.own
  rw [h.1] at h1
  exact Rd.of_own h1
theorem Rm.cap {W : World} {B : Nat} {v : Sv} {ys : List Int} (h : Rm W B v ys) : ∃ r, v.a = some ⟨r, 0, none⟩ ∧ ((ys.length : Int) + 16 ≤ (v.c : Int)) ∧ ∀ j, ys.length ≤ j → j < ys.length + 16 → W.cell? ⟨r, j, none⟩ = some (.int .u8 165) := by
  obtain ⟨va, vn, vc⟩ := v
  obtain ⟨e, h⟩ := h
  simp only at e h
  have hr := h
  rcases h.2 with ⟨_, h0⟩ | ⟨r, cap, cur, e, hB, hg, h1, h2, h3, h4⟩
  · omega
  · cases e
    refine ⟨r, rfl, by simp only; omega, fun j hj1 hj2 => ?_⟩
    obtain ⟨r', cap', e2, hc⟩ := row_at1 (i := j) (u := .int .u8 165) hr (by
      rw [cs, List.getElem?_map, List.getElem?_append_right hj1, List.getElem?_replicate, if_pos (by omega)]; rfl)
    cases e2
    exact hc
set_option maxRecDepth 100000 in
set_option maxHeartbeats 4000000 in
theorem roomy136 (w : World) (u : Value) (ys : List Int) (hu : Rd w u ys) (hN : ys.length ≤ 140737488355300) : Calls Try.prog 136 #[u] w fun e w' => ∃ v : Sv, e = .returned (sl v) ∧ Rm w' w.heap.size v ys ∧ Kp Nu w w' := by
  obtain ⟨i5, hi5, hy0, hy1, hy2⟩ := info_parts info5R
  have CL := clone48 w u ys hu (by omega)
  obtain ⟨ad, cap, rfl⟩ := hu.slice
  obtain ⟨N, eN⟩ : ∃ N, ys.length = N := ⟨_, rfl⟩
  have HH := hide (And.intro eN hN)
  rw [eN] at CL
  clear hu
  rw [eN]
  clear eN hN
  go_enter Try.func136, Try.ntmps136
  go_wp2_with (go_at_call 48; refine CL.mono ?_; rintro e w1 ⟨v, rfl, ho, k1⟩; have H0 := hide (And.intro ho k1); clear ho k1)
  go_loopw [4, 3] (fun s4 s3 wr => ∃ (i : Nat) (va : Value), s4 = .int .i64 (i : Int) ∧ va = s3 ∧ i ≤ 16 ∧ Hid (wr.ownsRow w.heap.size 5 1 va (N + i) (cs (ys ++ List.replicate i 165)) ∧ Kp Nu w wr)) (fun s4 _ _ => 16 - (intOf s4).toNat)
  case atStart => exact ⟨0, _, rfl, rfl, by omega, by simpa using H0.out.1, H0.out.2⟩
  case round =>
    clear H0
    obtain ⟨i, va, rfl, rfl, hi, HI⟩ := hrel
    obtain ⟨ho, kw⟩ := HI.out
    by_cases hlt : i < 16
    · have hltI : (i : Int) < 16 := by omega
      have hi0 : (0 : Int) ≤ (i : Int) := by omega
      have w1 := wq (i : Int) hi0 (by omega)
      have kA := Kp.alloc wr (.cells #[.int .u8 165] 5) Nu
      have oA : (wr.alloc (.cells #[.int .u8 165] 5)).ownsRow w.heap.size 5 1 va (N + i) (cs (ys ++ List.replicate i 165)) := own_keep ho (fun q hq => kA.block q (own_lt ho hq) (fun h => h))
      have HA := hide (And.intro oA (And.intro (And.intro ho kw) hlt))
      have HB : Hid (N + i + 1 ≤ maxLen ∧ (N + i + 1) * 1 ≤ 140737488355328 ∧ w.heap.size ≤ wr.heap.size + 1) := hide ⟨by have := HH.out; unfold maxLen; omega, by have := HH.out; omega, by have h2 := kw.size; omega⟩
      clear ho kw kA oA hi hlt HI
      go_wp2_with (at_builtin; refine wpList_append_lies _ rfl (.tmp 11) (.tmp 12) 74 rfl w.heap.size 5 i5 (.int .u8 0) 1 1 Try.underlying74 hi5 hy0 hy1 hy2 rfl (by decide) va (N + i) _ rfl HA.out.1 ⟨wr.heap.size, 0, none⟩ 1 1 [.int .u8 165] rfl rfl (cell_one_new wr _ 5) (by simp [Value.oneCell']) (by decide) HB.out.1 HB.out.2.1 (by rw [World.size_alloc]; exact HB.out.2.2) (wr.heap.size + 1) (World.size_alloc _ _) ?_; intro g2 gcap w4 ho hg hgat hglt; have hW : Hid (w4.ownsRow w.heap.size 5 1 (.slice (some ⟨g2, 0, none⟩) (N + i + 1) gcap) (N + (i + 1)) (cs (ys ++ List.replicate (i + 1) 165)) ∧ Kp Nu w w4) := hide ⟨by (have e : cs (ys ++ List.replicate (i + 1) 165) = cs (ys ++ List.replicate i 165) ++ [.int .u8 165] := by rw [List.replicate_succ', ← List.append_assoc]; simp [cs]); rw [e]; exact ho, (HA.out.2.1.2.andNu (Kp.alloc _ _ _)).trans (Kp.of_grown hg) (fun q hq e => by have := row5_low HA.out.2.1.1 e.symm; omega)⟩; clear ho hg hgat hglt)
      exact ⟨⟨i + 1, _, by go_num, rfl, by have := HA.out.2.2; omega, hW⟩, mq HA.out.2.2⟩
    · obtain rfl : i = 16 := by omega
      have hcap : ∃ r c, va = .slice (some ⟨r, 0, none⟩) (N + 16) c ∧ N ≤ c := by
        rcases ho.2 with ⟨_, h0⟩ | ⟨r, cap, cur, e, hB, hg, h1, h2, h3, h4⟩
        · omega
        · exact ⟨r, cap, e, by omega⟩
      obtain ⟨r, c, rfl, hc⟩ := hcap
      have hcI : (N : Int) ≤ (c : Int) := by omega
      have hN0 : (0 : Int) ≤ (N : Int) := by omega
      have HF : Hid (Rm wr w.heap.size ⟨some ⟨r, 0, none⟩, N, c⟩ ys ∧ Kp Nu w wr) := hide ⟨⟨HH.out.1.symm, by rw [HH.out.1]; exact ho⟩, kw⟩
      clear ho kw HI hi hlt hc
      go_wp2_with fail
      go_ret
      exact ⟨⟨some ⟨r, 0, none⟩, N, c⟩, rfl, HF.out⟩
set_option maxRecDepth 100000 in
set_option maxHeartbeats 4000000 in
theorem kept138 (w : World) (B : Nat) (v : Sv) (ys : List Int) (hv : Rm w B v ys) (hN : ys.length ≤ 140737488355300) : Calls Try.prog 138 #[sl v] w fun e w' => e = .returned (.bool true) ∧ w' = w := by
  obtain ⟨r, er, hcap, hcell⟩ := hv.cap
  have e1 := hv.1
  obtain ⟨va, vn, vc⟩ := v
  simp only at er e1 hcap
  subst er
  obtain ⟨N, eN⟩ : ∃ N, ys.length = N := ⟨_, rfl⟩
  rw [eN] at e1 hcap hcell hN
  subst e1
  have HC := hide hcell
  have HN := hide hN
  have w16 : wrap64 ((vn : Int) + 16) = (vn : Int) + 16 := by unfold wrap64; omega
  have hn0 : (0 : Int) ≤ (vn : Int) + 16 := by omega
  have e16 : ((vn + 16 : Nat) : Int) = (vn : Int) + 16 := by omega
  clear hv hcell hN eN
  go_enter Try.func138, Try.ntmps138
  go_wp2_with fail
  go_loopw [4] (fun s4 wr => ∃ j : Nat, s4 = .int .i64 ((vn + j : Nat) : Int) ∧ j ≤ 16 ∧ wr = w) (fun s4 _ => vn + 16 - (intOf s4).toNat)
  case atStart => exact ⟨0, rfl, Nat.zero_le _, rfl⟩
  case round =>
    obtain ⟨j, rfl, hj, rfl⟩ := hrel
    generalize eJ : vn + j = J at *
    by_cases hlt : j < 16
    · have d0 := HC.out J (by omega) (by omega)
      have hltI : (J : Int) < (vn : Int) + 16 := by omega
      have hJ0 : (0 : Int) ≤ (J : Int) := by omega
      have w1 := wq (J : Int) hJ0 (by have := HN.out; omega)
      have HJ := hide (And.intro eJ hlt)
      clear hj hlt eJ
      go_wp2_with fail
      rw [w1]
      exact ⟨⟨j + 1, by have := HJ.out.1; go_num, by have := HJ.out.2; omega, trivial⟩, by have := HJ.out; simp [intOf]; omega⟩
    · have hge : ¬ (J : Int) < (vn : Int) + 16 := by omega
      clear hj hlt eJ
      go_wp2_with fail
      go_ret
      exact ⟨rfl, rfl⟩
end Go.Proofs.Ytchealdgncgjoaa.StU
