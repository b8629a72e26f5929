import Derived.Test.YtchealdgncgjoaaMrE
import Derived.Laws.EntriesVeiled
namespace Go.Proofs.Ytchealdgncgjoaa.StM
open Go.RowKit Go.Proofs.Ytchealdgncgjoaa.St Go.Shelf Go.Sort Go.Proofs.Ytchealdgncgjoaa.It Go.Proofs.Ytchealdgncgjoaa.StI
set_option linter.unusedVariables false
set_option linter.unusedSimpArgs false
set_option maxRecDepth 100000 in
set_option maxHeartbeats 1000000 in
theorem new55 {bw : Nat} {wh : Int} (w : World) (hx : w.heap[bw]? = some (.cells #[.int .i64 wh] 3 (0, 0)) ∧ 0 ≤ wh ∧ wh ≤ 3) :
    Calls Try.prog 55 #[.func (.func 66) #[] #[.pointer (some ⟨bw, 0, none⟩)]] w fun e w' => e = .returned (.tuple #[.pointer (some ⟨w.heap.size, 0, none⟩), .int .i64 0]) ∧ Mp bw wh w' w.heap.size .nil ∧ Kp Nu w w' := by
  have k := Kp.alloc w (.cells #[.func (.func 66) #[] #[.pointer (some ⟨bw, 0, none⟩)], .pointer none] 130) Nu
  have HF : Hid (Mp bw wh (w.alloc (.cells #[.func (.func 66) #[] #[.pointer (some ⟨bw, 0, none⟩)], .pointer none] 130)) w.heap.size .nil ∧ Kp Nu w (w.alloc (.cells #[.func (.func 66) #[] #[.pointer (some ⟨bw, 0, none⟩)], .pointer none] 130))) :=
    ⟨⟨⟨none, heap_alloc_new w _, rfl⟩, trivial, List.Pairwise.nil, (k.block _ (blk_lt hx.1) (fun h => h)).trans hx.1, hx.2⟩, k⟩
  have nf : ∀ W : World, (binOp .eql 109 (.func (.func 66) #[] #[.pointer (some ⟨bw, 0, none⟩)]) .nilFunc).run Try.prog W = .ok (.bool false) W := fun W => by rfl
  clear hx k
  go_enter Try.func55, Try.ntmps55
  go_wp2
  go_ret2
  exact ⟨rfl, HF.out.1, HF.out.2⟩
set_option maxRecDepth 100000 in
set_option maxHeartbeats 1000000 in
theorem clone60 {bw : Nat} {wh : Int} {w : World} {mb : Nat} {t : T (Int × Int)} (h : Mp bw wh w mb t) :
    Calls Try.prog 60 #[.pointer (some ⟨mb, 0, none⟩)] w fun e w' => e = .returned (.pointer (some ⟨w.heap.size, 0, none⟩)) ∧ Mp bw wh w' w.heap.size t ∧ Kp Nu w w' := by
  have mixed : Try.prog.follows .mixedOrders = true := by kernel_rfl
  obtain ⟨a, h1, h2⟩ := h.ex
  have MA := made_any h1
  have k := Kp.alloc w (.cells #[.func (.func 66) #[] #[.pointer (some ⟨bw, 0, none⟩)], .pointer a] 130) Nu
  have HF : Hid (Mp bw wh ((w.alloc (.cells #[.func (.func 66) #[] #[.pointer (some ⟨bw, 0, none⟩)], .pointer a] 130)).drew) w.heap.size t ∧ Kp Nu w ((w.alloc (.cells #[.func (.func 66) #[] #[.pointer (some ⟨bw, 0, none⟩)], .pointer a] 130)).drew)) :=
    ⟨⟨⟨a, heap_alloc_new w _, h2.nu k.drew⟩, h.bal, h.srt, (k.drew.block _ (blk_lt h.bx.1) (fun h => h)).trans h.bx.1, h.bx.2⟩, k.drew⟩
  have c0 : w.cell? ⟨mb, 0, none⟩ = some (.func (.func 66) #[] #[.pointer (some ⟨bw, 0, none⟩)]) := by simp [World.cell?, h1]
  have c1 : w.cell? ⟨mb, 1, none⟩ = some (.pointer a) := by simp [World.cell?, h1]
  clear h h1 h2 k
  go_enter Try.func60, Try.ntmps60
  go_wp2_with (go_at_call 77; refine MA.mono ?_; rintro e w' ⟨rfl, hw⟩; obtain rfl := hw.symm)
  go_region
  all_goals go_wp2
  all_goals go_ret
  all_goals exact ⟨rfl, HF.out.1, HF.out.2⟩
/-- a number made one of 0, 1, 2 -/
def th3 (x : Int) : Int := if x.tmod 3 < 0 then x.tmod 3 + 3 else x.tmod 3
theorem th3_bd (x : Int) : 0 ≤ th3 x ∧ th3 x < 3 := by
  obtain ⟨h1, h2⟩ := tm_bd x 3 (by decide)
  unfold th3
  split <;> omega
set_option maxHeartbeats 400000 in
theorem third68 (x : Int) (w : World) : Calls Try.prog 68 #[.int .i64 x] w fun e w' => e = .returned (.int .i64 (th3 x)) ∧ w' = w := by
  obtain ⟨h1, h2⟩ := tm_bd x 3 (by decide)
  have w1 : IntKind.i64.wrap (x.tmod 3 + 3) = x.tmod 3 + 3 := by rw [IntKind.wrap_i64]; omega
  have w2 : wrap64 (x.tmod 3 + 3) = x.tmod 3 + 3 := by unfold wrap64; omega
  by_cases h : x.tmod 3 < 0
  · have e : th3 x = x.tmod 3 + 3 := by unfold th3; rw [if_pos h]
    rw [e]
    clear e h1 h2
    go_enter Try.func68, Try.ntmps68
    go_wp2
    go_ret
    exact ⟨by first | rfl | rw [w2], rfl⟩
  · have e : th3 x = x.tmod 3 := by unfold th3; rw [if_neg h]
    rw [e]
    clear e h1 h2
    go_enter Try.func68, Try.ntmps68
    go_wp2
    go_ret
    exact ⟨rfl, rfl⟩
/-- the fewest nodes of a balanced tree of this height -/
def mn : Nat → Nat
  | 0 => 0
  | 1 => 1
  | n + 2 => mn (n + 1) + mn n + 1
theorem mn_mono : ∀ n : Nat, mn n ≤ mn (n + 1)
  | 0 => by decide
  | 1 => by decide
  | n + 2 => by
    have h1 : mn n ≤ mn (n + 1) := mn_mono n
    have h2 : mn (n + 1) ≤ mn (n + 2) := mn_mono (n + 1)
    show mn (n + 1) + mn n + 1 ≤ mn (n + 2) + mn (n + 1) + 1
    omega
theorem mn_le {a b : Nat} (h : a ≤ b) : mn a ≤ mn b := by
  induction b with
  | zero => have : a = 0 := by omega
            rw [this]; exact Nat.le_refl _
  | succ b ih =>
    rcases Nat.lt_or_ge a (b + 1) with h1 | h1
    · exact Nat.le_trans (ih (by omega)) (mn_mono b)
    · have : a = b + 1 := by omega
      rw [this]; exact Nat.le_refl _
theorem mn_sz {α : Type} : ∀ t : T α, t.bal → mn t.ht ≤ t.sz
  | .nil, _ => by simp [T.ht, T.sz, mn]
  | .node l p r, h => by
    simp only [T.bal] at h
    have hl := mn_sz l h.1
    have hr := mn_sz r h.2.1
    simp only [T.ht, T.sz]
    obtain ⟨m, hm⟩ : ∃ m, max l.ht r.ht = m := ⟨_, rfl⟩
    rw [hm]
    cases m with
    | zero => show 1 ≤ _; omega
    | succ m =>
      show mn (m + 1) + mn m + 1 ≤ _
      rcases Nat.le_total l.ht r.ht with c | c
      · have e : r.ht = m + 1 := by omega
        have : mn m ≤ mn l.ht := mn_le (by omega)
        rw [e] at hr; omega
      · have e : l.ht = m + 1 := by omega
        have : mn m ≤ mn r.ht := mn_le (by omega)
        rw [e] at hl; omega
/-- the sequence two at a time -/
def mn2 : Nat → Nat × Nat
  | 0 => (0, 1)
  | n + 1 => ((mn2 n).2, (mn2 n).2 + (mn2 n).1 + 1)
theorem mn2_eq : ∀ n : Nat, mn2 n = (mn n, mn (n + 1))
  | 0 => rfl
  | n + 1 => by simp only [mn2, mn2_eq n]; rfl
theorem mn_61 : 4398046511104 < mn 61 := by
  have h := mn2_eq 61
  have : mn 61 = (mn2 61).1 := by rw [h]
  rw [this]
  decide +kernel
theorem ht_60 {α : Type} {t : T α} (h : t.bal) (hs : t.sz ≤ 4398046511104) : t.ht ≤ 60 := by
  rcases Nat.lt_or_ge 60 t.ht with c | c
  · have h1 := mn_sz t h
    have h2 := mn_le (a := 61) c
    have := mn_61
    omega
  · exact c
end Go.Proofs.Ytchealdgncgjoaa.StM
namespace Go.Proofs.Ytchealdgncgjoaa.StM
open Go.RowKit Go.Proofs.Ytchealdgncgjoaa.St Go.Shelf Go.Sort Go.Proofs.Ytchealdgncgjoaa.It Go.Proofs.Ytchealdgncgjoaa.StI
set_option linter.unusedVariables false
set_option linter.unusedSimpArgs false
theorem pw60 {k h : Nat} (hk : k ≤ h) (hh : h ≤ 60) : 2 ^ k ≤ 1152921504606846976 := by
  have : 2 ^ k ≤ 2 ^ 60 := Nat.pow_le_pow_right (by decide) (by omega)
  simpa using this
theorem pw_suc (k : Nat) : 2 ^ (k + 1) = 2 * 2 ^ k := by rw [Nat.pow_succ]; omega
theorem dbl {P : Nat} (h : P ≤ 1152921504606846976) : wrap64 (2 * (P : Int)) = ((2 * P : Nat) : Int) ∧ IntKind.i64.wrap (2 * (P : Int)) = ((2 * P : Nat) : Int) := ⟨by unfold wrap64; omega, by rw [IntKind.wrap_i64]; omega⟩
theorem sq30 {n : Nat} (h : n ≤ 1073741824) : (n + 1) * (n + 1) ≤ 1152921506754330625 := Nat.mul_le_mul (show n + 1 ≤ 1073741825 by omega) (show n + 1 ≤ 1073741825 by omega)
set_option maxRecDepth 100000 in
set_option maxHeartbeats 2000000 in
theorem high133 (w : World) (n h : Nat) (hn : n ≤ 4398046511104) (hh : h ≤ 60) (h1 : n < 2 ^ h) (h2 : 2 ^ h ≤ (n + 1) * (n + 1)) :
    Calls Try.prog 133 #[.int .i64 (n : Int), .int .i64 (h : Int)] w fun e w' => e = .returned (.bool true) ∧ w' = w := by
  have H0 := hide (And.intro hn (And.intro hh (And.intro h1 h2)))
  have g1 : decide ((h : Int) < 0) = false := by simp
  have g2 : ¬ (h : Int) > 60 := by omega
  clear hn hh h1 h2
  go_enter Try.func133, Try.ntmps133
  go_wp2_with fail
  clear g1 g2
  go_loopw [5, 6] (fun p i wr => ∃ k P : Nat, k ≤ h ∧ p = .int .i64 (P : Int) ∧ i = .int .i64 (k : Int) ∧ wr = w ∧ Hid (P = 2 ^ k)) (fun p i _ => h - (intOf i).toNat)
  case atStart => exact ⟨0, 1, Nat.zero_le _, rfl, rfl, rfl, rfl⟩
  case round =>
    obtain ⟨k, P, hk, rfl, rfl, hw, hP⟩ := hrel
    subst hw
    by_cases hlt : k < h
    · have hPl : P ≤ 1152921504606846976 := by rw [hP.out]; exact pw60 hk H0.out.2.1
      obtain ⟨p2, _⟩ := dbl hPl
      have hk0 : (0 : Int) ≤ (k : Int) := by omega
      have p3 := wq (k : Int) hk0 (by have := H0.out.2.1; omega)
      have hltI : (k : Int) < (h : Int) := by omega
      have HE : Hid (2 * P = 2 ^ (k + 1) ∧ k < h) := hide ⟨by rw [hP.out, pw_suc], hlt⟩
      have HA := hide p2
      have HA3 := hide p3
      clear hk hP hlt hPl p2 p3
      obtain ⟨p, hp⟩ : ∃ p : Int, 2 * (P : Int) = p := ⟨_, rfl⟩
      go_wp2_with fail
      first
        | exact ⟨⟨k + 1, 2 * P, sq HE.out.2, congrArg (Value.int .i64) HA.out, by rw [HA3.out]; go_num, trivial, HE.out.1⟩, by rw [HA3.out]; exact mq HE.out.2⟩
        | (rw [← hp]; exact ⟨⟨k + 1, 2 * P, sq HE.out.2, congrArg (Value.int .i64) HA.out, by rw [HA3.out]; go_num, trivial, HE.out.1⟩, by rw [HA3.out]; exact mq HE.out.2⟩)
        | (rw [hp] at HA; exact ⟨⟨k + 1, 2 * P, sq HE.out.2, congrArg (Value.int .i64) HA.out, by rw [HA3.out]; go_num, trivial, HE.out.1⟩, by rw [HA3.out]; exact mq HE.out.2⟩)
    · obtain rfl : k = h := by omega
      obtain ⟨b1, b2, b3, b4⟩ := H0.out
      rw [← hP.out] at b3 b4
      have hge : ¬ (k : Int) < (k : Int) := by omega
      have c1 : (P : Int) > (n : Int) := by omega
      have c1' : decide ((P : Int) > (n : Int)) = true := decide_eq_true c1
      by_cases c : n ≤ 1073741824
      · have c2 : ¬ (n : Int) > 1073741824 := by omega
        have c2' : decide ((n : Int) > 1073741824) = false := decide_eq_false c2
        have q1 := sq30 c
        obtain ⟨q, hq⟩ : ∃ q : Nat, (n + 1) * (n + 1) = q := ⟨_, rfl⟩
        have hqI : ((n : Int) + 1) * ((n : Int) + 1) = (q : Int) := by rw [← hq]; simp
        rw [hq] at b4 q1
        have w1 : wrap64 ((n : Int) + 1) = (n : Int) + 1 := by unfold wrap64; omega
        have w2 : wrap64 (((n : Int) + 1) * ((n : Int) + 1)) = (q : Int) := by rw [hqI]; unfold wrap64; omega
        have w3 : IntKind.i64.wrap ((n : Int) + 1) = (n : Int) + 1 := by rw [IntKind.wrap_i64]; omega
        have w4 : IntKind.i64.wrap (((n : Int) + 1) * ((n : Int) + 1)) = (q : Int) := by rw [hqI, IntKind.wrap_i64]; omega
        have c3 : (P : Int) ≤ (q : Int) := by omega
        have c3' : decide ((P : Int) ≤ (q : Int)) = true := decide_eq_true c3
        clear H0 hP hk hlt b1 b2 b3 b4 q1 hq c hqI
        generalize (q : Int) = Q at *
        go_wp2_with fail
        go_ret
        first | exact ⟨rfl, rfl⟩ | (refine ⟨?_, rfl⟩; simp [w1, w2, c3])
      · have c2 : (n : Int) > 1073741824 := by omega
        have c2' : decide ((n : Int) > 1073741824) = true := decide_eq_true c2
        clear H0 hP hk hlt b1 b2 b3 b4 c
        go_wp2_with fail
        go_ret
        exact ⟨rfl, rfl⟩
end Go.Proofs.Ytchealdgncgjoaa.StM
namespace Go.Proofs.Ytchealdgncgjoaa.StM
open Go.RowKit Go.Proofs.Ytchealdgncgjoaa.St Go.Shelf Go.Sort Go.Proofs.Ytchealdgncgjoaa.It Go.Proofs.Ytchealdgncgjoaa.StI
set_option linter.unusedVariables false
set_option linter.unusedSimpArgs false
/-- a list that its holder grows: only its own block, or new ones -/
structure Sp (w W : World) (B g : Nat) (v : Value) (n : Nat) : Prop where
  kp : Kp (fun i => i = g) w W
  ow : ∃ l, W.ownsRow B 3 1 v n l ∧ l.length = n
  bl : ∀ q, v.ownBlock = some q → q = g ∨ w.heap.size ≤ q
theorem Sp.grow {w W W4 : World} {B g g2 cap n : Nat} {v u : Value} {l : List Value} {o : Obj} (h : Sp w W B g v n) (hl : l.length = n) (hg : (W.alloc o).grownBy W4 v.ownBlock) (ho : W4.ownsRow B 3 1 (.slice (some ⟨g2, 0, none⟩) (n + 1) cap) (n + 1) (l ++ [u])) (hat : v.ownBlock = some g2 ∨ g2 = W.heap.size + 1) :
    Sp w W4 B g (.slice (some ⟨g2, 0, none⟩) (n + 1) cap) (n + 1) := by
  refine ⟨(h.kp.trans (Kp.alloc W o (fun i => i = g)) (fun _ _ e => e)).trans (Kp.of_grown hg) (fun i hi e => ?_), ⟨_, ho, by simp [hl]⟩, fun q hq => ?_⟩
  · rcases h.bl i e.symm with e2 | e2
    · exact e2
    · omega
  · have hq : g2 = q := by simpa [Value.ownBlock] using hq
    rcases hat with e | e
    · rw [hq] at e; exact h.bl q e
    · have := h.kp.size; exact .inr (by omega)
set_option maxRecDepth 100000 in
set_option maxHeartbeats 4000000 in
theorem spoil134 {w : World} {B g N : Nat} {l : List Value} (m : Int) (hm : 0 ≤ m ∧ m ≤ 100) (h : w.ownsRow B 3 1 (.slice (some ⟨g, 0, none⟩) N N) N l) (hll : l.length = N) (hB : B ≤ w.heap.size) (hl : N ≤ 4398046511104) :
    Calls Try.prog 134 #[.slice (some ⟨g, 0, none⟩) N N, .int .i64 m] w fun e w' => (∃ v, e = .returned v) ∧ Kp (fun i => i = g) w w' := by
  obtain ⟨i3, hi3, hy0, hy1, hy2⟩ := info_parts info3s
  have HH := hide (And.intro hB hl)
  have H0 : Hid (Kp (fun i => i = g) w w ∧ ∃ l', w.ownsRow B 3 1 (.slice (some ⟨g, 0, none⟩) N N) N l' ∧ l'.length = N) := hide ⟨Kp.refl _ _, l, h, hll⟩
  have w2 : wrap64 (m + 1) = m + 1 := by unfold wrap64; omega
  clear h hll hB hl hm
  go_enter Try.func134, Try.ntmps134
  go_wp2_with fail
  go_loopw [4] (fun s4 wr => ∃ j : Nat, s4 = .int .i64 (j : Int) ∧ j ≤ N ∧ Hid (Kp (fun i => i = g) w wr ∧ ∃ l', wr.ownsRow B 3 1 (.slice (some ⟨g, 0, none⟩) N N) N l' ∧ l'.length = N)) (fun s4 _ => N - (intOf s4).toNat)
  case atStart => exact ⟨0, rfl, Nat.zero_le _, H0.out⟩
  case round =>
    clear H0
    obtain ⟨j, rfl, hj, hh⟩ := hrel
    by_cases hlt : j < N
    · obtain ⟨kw, l', ho, hl'⟩ := hh.out
      obtain ⟨u, hu⟩ : ∃ u, l'[j]? = some u := ⟨_, List.getElem?_eq_getElem (by omega)⟩
      obtain ⟨r, cap, e, hc⟩ := rowI_at (i := j) (u := u) ho hl' hu
      cases e
      obtain ⟨cur, hcur⟩ := own_obj ho rfl
      have f1 := free3 hcur j
      have hltI : (j : Int) < (N : Int) := by omega
      have hj0 : (0 : Int) ≤ (j : Int) := by omega
      have w1 := wq (j : Int) hj0 (by have := HH.out; omega)
      have HN : Hid ((Kp (fun i => i = g) w (wr.setCell ⟨g, j, none⟩ (.int .i64 m)) ∧ ∃ l', (wr.setCell ⟨g, j, none⟩ (.int .i64 m)).ownsRow B 3 1 (.slice (some ⟨g, 0, none⟩) N N) N l' ∧ l'.length = N) ∧ j < N) := hide ⟨⟨kw.trans (Kp.setCell wr ⟨g, j, none⟩ _) (fun _ _ e => e), _, own_set1 ho hlt (.int .i64 m), by simp [hl']⟩, hlt⟩
      clear kw ho hl' hu hcur hj hlt hh
      go_wp2_with fail
      rw [w1]
      exact ⟨⟨j + 1, by go_num, sq HN.out.2, hide HN.out.1⟩, mq HN.out.2⟩
    · obtain rfl : j = N := by omega
      have hge : ¬ (j : Int) < (j : Int) := by omega
      have HS : Hid (Sp w wr B g (.slice (some ⟨g, 0, none⟩) j j) (j + 0)) := hide ⟨hh.out.1, hh.out.2, fun q hq => .inl (Option.some.inj hq).symm⟩
      clear hh hj hlt
      go_wp2_with fail
      clear hge
      go_loopw [5, 0] (fun s5 s0 wr2 => ∃ (i : Nat) (va : Value), s5 = .int .i64 (i : Int) ∧ va = s0 ∧ i ≤ 5 ∧ Hid (Sp w wr2 B g va (j + i))) (fun s5 _ _ => 5 - (intOf s5).toNat)
      case atStart => exact ⟨0, _, rfl, rfl, by omega, HS⟩
      case round =>
        clear HS
        generalize wr = wz at *
        obtain ⟨i, va, rfl, rfl, hi, hS⟩ := hrel
        by_cases hlt : i < 5
        · obtain ⟨l', ho, hl'⟩ := hS.out.ow
          have kA := Kp.alloc wz (.cells #[.int .i64 (m + 1)] 3) Nu
          have oA : (wz.alloc (.cells #[.int .i64 (m + 1)] 3)).ownsRow B 3 1 va (j + i) l' := own_keep ho (fun q hq => kA.block q (own_lt ho hq) (fun h => h))
          have hltI : (i : Int) < 5 := by omega
          have hi0 : (0 : Int) ≤ (i : Int) := by omega
          have w1 := wq (i : Int) hi0 (by omega)
          have HA := hide (And.intro oA (And.intro hS.out (And.intro hl' hlt)))
          have HB : Hid (j + i + 1 ≤ maxLen ∧ (j + i + 1) * 8 ≤ 140737488355328 ∧ B ≤ wz.heap.size + 1) := hide ⟨by have := HH.out.2; unfold maxLen; omega, by have := HH.out.2; omega, by have h1 := HH.out.1; have h2 := hS.out.kp.size; omega⟩
          clear ho hl' oA kA hi hlt hS
          go_wp2_with (at_builtin; refine wpList_append_lies _ rfl (.tmp 20) (.tmp 23) 47 rfl B 3 i3 (.int .i64 0) 1 8 Try.underlying47 hi3 hy0 hy1 hy2 rfl (by decide) va (j + i) l' rfl HA.out.1 ⟨wz.heap.size, 0, none⟩ 1 1 [.int .i64 (m + 1)] rfl rfl (cell_one_new wz _ 3) (by simp [Value.oneCell']) (by decide) HB.out.1 HB.out.2.1 (by rw [World.size_alloc]; exact HB.out.2.2) (wz.heap.size + 1) (World.size_alloc _ _) ?_; intro g2 gcap w4 ho hg hgat hglt; have hW := hide (HA.out.2.1.grow HA.out.2.2.1 hg ho hgat); clear ho hg hgat hglt)
          exact ⟨⟨i + 1, _, by go_num, rfl, by have := HA.out.2.2.2; omega, hW⟩, mq HA.out.2.2.2⟩
        · obtain rfl : i = 5 := by omega
          have HK := hide hS.out.kp
          clear hS hi hlt
          go_wp2_with fail
          go_end0
          exact ⟨⟨_, rfl⟩, HK.out⟩
end Go.Proofs.Ytchealdgncgjoaa.StM
