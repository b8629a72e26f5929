import Derived.Test.YtchealdgncgjoaaMrE
import Derived.Laws.EntriesVeiled
namespace Go.Proofs.Ytchealdgncgjoaa.StM
open Go.RowKit Go.Proofs.Ytchealdgncgjoaa.St Go.Shelf Go.Sort Go.Proofs.Ytchealdgncgjoaa.It Go.Proofs.Ytchealdgncgjoaa.StI
set_option linter.unusedVariables false
set_option linter.unusedSimpArgs false
set_option maxRecDepth 100000 in
set_option maxHeartbeats 1000000 in
theorem new55 {bw : Nat} {wh : Int} (w : World) (hx : w.heap[bw]? = some (.cells #[.int .i64 wh] 3 (0, 0)) ∧ 0 ≤ wh ∧ wh ≤ 3) :
    Calls Try.prog 55 #[.func (.func 66) #[] #[.pointer (some ⟨bw, 0, none⟩)]] w fun e w' => e = .returned (.tuple #[.pointer (some ⟨w.heap.size, 0, none⟩), .int .i64 0]) ∧ Mp bw wh w' w.heap.size .nil ∧ Kp Nu w w' := by
  have k := Kp.alloc w (.cells #[.func (.func 66) #[] #[.pointer (some ⟨bw, 0, none⟩)], .pointer none] 130) Nu
  have HF : Hid (Mp bw wh (w.alloc (.cells #[.func (.func 66) #[] #[.pointer (some ⟨bw, 0, none⟩)], .pointer none] 130)) w.heap.size .nil ∧ Kp Nu w (w.alloc (.cells #[.func (.func 66) #[] #[.pointer (some ⟨bw, 0, none⟩)], .pointer none] 130))) :=
    ⟨⟨⟨none, heap_alloc_new w _, rfl⟩, trivial, List.Pairwise.nil, (k.block _ (blk_lt hx.1) (fun h => h)).trans hx.1, hx.2⟩, k⟩
  have nf : ∀ W : World, (binOp .eql 109 (.func (.func 66) #[] #[.pointer (some ⟨bw, 0, none⟩)]) .nilFunc).run Try.prog W = .ok (.bool false) W := fun W => by rfl
  clear hx k
  go_enter Try.func55, Try.ntmps55
  go_wp2
  go_ret2
  exact ⟨rfl, HF.out.1, HF.out.2⟩
set_option maxRecDepth 100000 in
set_option maxHeartbeats 1000000 in
theorem clone60 {bw : Nat} {wh : Int} {w : World} {mb : Nat} {t : T (Int × Int)} (h : Mp bw wh w mb t) :
    Calls Try.prog 60 #[.pointer (some ⟨mb, 0, none⟩)] w fun e w' => e = .returned (.pointer (some ⟨w.heap.size, 0, none⟩)) ∧ Mp bw wh w' w.heap.size t ∧ Kp Nu w w' := by
  have mixed : Try.prog.follows .mixedOrders = true := by kernel_rfl
  obtain ⟨a, h1, h2⟩ := h.ex
  have MA := made_any h1
  have k := Kp.alloc w (.cells #[.func (.func 66) #[] #[.pointer (some ⟨bw, 0, none⟩)], .pointer a] 130) Nu
  have HF : Hid (Mp bw wh ((w.alloc (.cells #[.func (.func 66) #[] #[.pointer (some ⟨bw, 0, none⟩)], .pointer a] 130)).drew) w.heap.size t ∧ Kp Nu w ((w.alloc (.cells #[.func (.func 66) #[] #[.pointer (some ⟨bw, 0, none⟩)], .pointer a] 130)).drew)) :=
    ⟨⟨⟨a, heap_alloc_new w _, h2.nu k.drew⟩, h.bal, h.srt, (k.drew.block _ (blk_lt h.bx.1) (fun h => h)).trans h.bx.1, h.bx.2⟩, k.drew⟩
  have c0 : w.cell? ⟨mb, 0, none⟩ = some (.func (.func 66) #[] #[.pointer (some ⟨bw, 0, none⟩)]) := by simp [World.cell?, h1]
  have c1 : w.cell? ⟨mb, 1, none⟩ = some (.pointer a) := by simp [World.cell?, h1]
  clear h h1 h2 k
  go_enter Try.func60, Try.ntmps60
  go_wp2_with (go_at_call 77; refine MA.mono ?_; rintro e w' ⟨rfl, hw⟩; obtain rfl := hw.symm)
  go_region
  all_goals go_wp2
  all_goals go_ret
  all_goals exact ⟨rfl, HF.out.1, HF.out.2⟩
/-- a number made one of 0, 1, 2 -/
def th3 (x : Int) : Int := if x.tmod 3 < 0 then x.tmod 3 + 3 else x.tmod 3
theorem th3_bd (x : Int) : 0 ≤ th3 x ∧ th3 x < 3 := by
  obtain ⟨h1, h2⟩ := tm_bd x 3 (by decide)
  unfold th3
  split <;> omega
set_option maxHeartbeats 400000 in
theorem third68 (x : Int) (w : World) : Calls Try.prog 68 #[.int .i64 x] w fun e w' => e = .returned (.int .i64 (th3 x)) ∧ w' = w := by
  obtain ⟨h1, h2⟩ := tm_bd x 3 (by decide)
  have w1 : IntKind.i64.wrap (x.tmod 3 + 3) = x.tmod 3 + 3 := by rw [IntKind.wrap_i64]; omega
  have w2 : wrap64 (x.tmod 3 + 3) = x.tmod 3 + 3 := by unfold wrap64; omega
  by_cases h : x.tmod 3 < 0
  · have e : th3 x = x.tmod 3 + 3 := by unfold th3; rw [if_pos h]
    rw [e]
    clear e h1 h2
    go_enter Try.func68, Try.ntmps68
    go_wp2
    go_ret
    exact ⟨by first | rfl | rw [w2], rfl⟩
  · have e : th3 x = x.tmod 3 := by unfold th3; rw [if_neg h]
    rw [e]
    clear e h1 h2
    go_enter Try.func68, Try.ntmps68
    go_wp2
    go_ret
    exact ⟨rfl, rfl⟩
/-- the fewest nodes of a balanced tree of this height -/
def mn : Nat → Nat
  | 0 => 0
  | 1 => 1
  | n + 2 => mn (n + 1) + mn n + 1
theorem mn_mono : ∀ n : Nat, mn n ≤ mn (n + 1)
  | 0 => by decide
  | 1 => by decide
  | n + 2 => by
    have h1 : mn n ≤ mn (n + 1) := mn_mono n
    have h2 : mn (n + 1) ≤ mn (n + 2) := mn_mono (n + 1)
    show mn (n + 1) + mn n + 1 ≤ mn (n + 2) + mn (n + 1) + 1
    omega
theorem mn_le {a b : Nat} (h : a ≤ b) : mn a ≤ mn b := by
  induction b with
  | zero => have : a = 0 := by omega
            rw [this]; exact Nat.le_refl _
  | succ b ih =>
    rcases Nat.lt_or_ge a (b + 1) with h1 | h1
    · exact Nat.le_trans (ih (by omega)) (mn_mono b)
    · have : a = b + 1 := by omega
      rw [this]; exact Nat.le_refl _
theorem mn_sz {α : Type} : ∀ t : T α, t.bal → mn t.ht ≤ t.sz
  | .nil, _ => by simp [T.ht, T.sz, mn]
  | .node l p r, h => by
    simp only [T.bal] at h
    have hl := mn_sz l h.1
    have hr := mn_sz r h.2.1
    simp only [T.ht, T.sz]
    obtain ⟨m, hm⟩ : ∃ m, max l.ht r.ht = m := ⟨_, rfl⟩
    rw [hm]
    cases m with
    | zero => show 1 ≤ _; omega
    | succ m =>
      show mn (m + 1) + mn m + 1 ≤ _
      rcases Nat.le_total l.ht r.ht with c | c
      · have e : r.ht = m + 1 := by omega
        have : mn m ≤ mn l.ht := mn_le (by omega)
        rw [e] at hr; omega
      · have e : l.ht = m + 1 := by omega
        have : mn m ≤ mn r.ht := mn_le (by omega)
        rw [e] at hl; omega
/-- the sequence two at a time -/
def mn2 : Nat → Nat × Nat
  | 0 => (0, 1)
  | n + 1 => ((mn2 n).2, (mn2 n).2 + (mn2 n).1 + 1)
theorem mn2_eq : ∀ n : Nat, mn2 n = (mn n, mn (n + 1))
  | 0 => rfl
  | n + 1 => by simp only [mn2, mn2_eq n]; rfl
theorem mn_61 : 4398046511104 < mn 61 := by
  have h := mn2_eq 61
  have : mn 61 = (mn2 61).1 := by rw [h]
  rw [this]
  decide +kernel
theorem ht_60 {α : Type} {t : T α} (h : t.bal) (hs : t.sz ≤ 4398046511104) : t.ht ≤ 60 := by
  rcases Nat.lt_or_ge 60 t.ht with c | c
  · have h1 := mn_sz t h
    have h2 := mn_le (a := 61) c
    have := mn_61
    omega
  · exact c
end Go.Proofs.Ytchealdgncgjoaa.StM
namespace Go.Proofs.Ytchealdgncgjoaa.StM
open Go.RowKit Go.Proofs.Ytchealdgncgjoaa.St Go.Shelf Go.Sort Go.Proofs.Ytchealdgncgjoaa.It Go.Proofs.Ytchealdgncgjoaa.StI
set_option linter.unusedVariables false
set_option linter.unusedSimpArgs false
theorem pw60 {k h : Nat} (hk : k ≤ h) (hh : h ≤ 60) : 2 ^ k ≤ 1152921504606846976 := by
  have : 2 ^ k ≤ 2 ^ 60 := Nat.pow_le_pow_right (by decide) (by omega)
  simpa using this
theorem pw_suc (k : Nat) : 2 ^ (k + 1) = 2 * 2 ^ k := by rw [Nat.pow_succ]; omega
theorem dbl {P : Nat} (h : P ≤ 1152921504606846976) : wrap64 (2 * (P : Int)) = ((2 * P : Nat) : Int) ∧ IntKind.i64.wrap (2 * (P : Int)) = ((2 * P : Nat) : Int) := ⟨by unfold wrap64; omega, by rw [IntKind.wrap_i64]; omega⟩
theorem sq30 {n : Nat} (h : n ≤ 1073741824) : (n + 1) * (n + 1) ≤ 1152921506754330625 := Nat.mul_le_mul (show n + 1 ≤ 1073741825 by omega) (show n + 1 ≤ 1073741825 by omega)
set_option maxRecDepth 100000 in
set_option maxHeartbeats 2000000 in
theorem high133 (w : World) (n h : Nat) (hn : n ≤ 4398046511104) (hh : h ≤ 60) (h1 : n < 2 ^ h) (h2 : 2 ^ h ≤ (n + 1) * (n + 1)) :
    Calls Try.prog 133 #[.int .i64 (n : Int), .int .i64 (h : Int)] w fun e w' => e = .returned (.bool true) ∧ w' = w := by
  have H0 := hide (And.intro hn (And.intro hh (And.intro h1 h2)))
  have g1 : decide ((h : Int) < 0) = false := by simp
  have g2 : ¬ (h : Int) > 60 := by omega
  clear hn hh h1 h2
  go_enter Try.func133, Try.ntmps133
  go_wp2_with fail
  clear g1 g2
  go_loopw [5, 6] (fun p i wr => ∃ k P : Nat, k ≤ h ∧ p = .int .i64 (P : Int) ∧ i = .int .i64 (k : Int) ∧ wr = w ∧ Hid (P = 2 ^ k)) (fun p i _ => h - (intOf i).toNat)
  case atStart => exact ⟨0, 1, Nat.zero_le _, rfl, rfl, rfl, rfl⟩
  case round =>
    obtain ⟨k, P, hk, rfl, rfl, hw, hP⟩ := hrel
    subst hw
    by_cases hlt : k < h
    · have hPl : P ≤ 1152921504606846976 := by rw [hP.out]; exact pw60 hk H0.out.2.1
      obtain ⟨p2, _⟩ := dbl hPl
      have hk0 : (0 : Int) ≤ (k : Int) := by omega
      have p3 := wq (k : Int) hk0 (by have := H0.out.2.1; omega)
      have hltI : (k : Int) < (h : Int) := by omega
      have HE : Hid (2 * P = 2 ^ (k + 1) ∧ k < h) := hide ⟨by rw [hP.out, pw_suc], hlt⟩
      have HA := hide p2
      have HA3 := hide p3
      clear hk hP hlt hPl p2 p3
      obtain ⟨p, hp⟩ : ∃ p : Int, 2 * (P : Int) = p := ⟨_, rfl⟩
      go_wp2_with fail
      first
        | exact ⟨⟨k + 1, 2 * P, sq HE.out.2, congrArg (Value.int .i64) HA.out, by rw [HA3.out]; go_num, trivial, HE.out.1⟩, by rw [HA3.out]; exact mq HE.out.2⟩
        | (rw [← hp]; exact ⟨⟨k + 1, 2 * P, sq HE.out.2, congrArg (Value.int .i64) HA.out, by rw [HA3.out]; go_num, trivial, HE.out.1⟩, by rw [HA3.out]; exact mq HE.out.2⟩)
        | (rw [hp] at HA; exact ⟨⟨k + 1, 2 * P, sq HE.out.2, congrArg (Value.int .i64) HA.out, by rw [HA3.out]; go_num, trivial, HE.out.1⟩, by rw [HA3.out]; exact mq HE.out.2⟩)
    · obtain rfl : k = h := by omega
      obtain ⟨b1, b2, b3, b4⟩ := H0.out
      rw [← hP.out] at b3 b4
      have hge : ¬ (k : Int) < (k : Int) := by omega
      have c1 : (P : Int) > (n : Int) := by omega
      have c1' : decide ((P : Int) > (n : Int)) = true := decide_eq_true c1
      by_cases c : n ≤ 1073741824
      · have c2 : ¬ (n : Int) > 1073741824 := by omega
        have c2' : decide ((n : Int) > 1073741824) = false := decide_eq_false c2
        have q1 := sq30 c
        obtain ⟨q, hq⟩ : ∃ q : Nat, (n + 1) * (n + 1) = q := ⟨_, rfl⟩
        have hqI : ((n : Int) + 1) * ((n : Int) + 1) = (q : Int) := by rw [← hq]; simp
        rw [hq] at b4 q1
        have w1 : wrap64 ((n : Int) + 1) = (n : Int) + 1 := by unfold wrap64; omega
        have w2 : wrap64 (((n : Int) + 1) * ((n : Int) + 1)) = (q : Int) := by rw [hqI]; unfold wrap64; omega
        have w3 : IntKind.i64.wrap ((n : Int) + 1) = (n : Int) + 1 := by rw [IntKind.wrap_i64]; omega
        have w4 : IntKind.i64.wrap (((n : Int) + 1) * ((n : Int) + 1)) = (q : Int) := by rw [hqI, IntKind.wrap_i64]; omega
        have c3 : (P : Int) ≤ (q : Int) := by omega
        have c3' : decide ((P : Int) ≤ (q : Int)) = true := decide_eq_true c3
        clear H0 hP hk hlt b1 b2 b3 b4 q1 hq c hqI
        generalize (q : Int) = Q at *
        go_wp2_with fail
        go_ret
        first | exact ⟨rfl, rfl⟩ | (refine ⟨?_, rfl⟩; simp [w1, w2, c3])
      · have c2 : (n : Int) > 1073741824 := by omega
        have c2' : decide ((n : Int) > 1073741824) = true := decide_eq_true c2
        clear H0 hP hk hlt b1 b2 b3 b4 c
        go_wp2_with fail
        go_ret
        exact ⟨rfl, rfl⟩
end Go.Proofs.Ytchealdgncgjoaa.StM
namespace Go.Proofs.Ytchealdgncgjoaa.StM
open Go.RowKit Go.Proofs.Ytchealdgncgjoaa.St Go.Shelf Go.Sort Go.Proofs.Ytchealdgncgjoaa.It Go.Proofs.Ytchealdgncgjoaa.StI
set_option linter.unusedVariables false
set_option linter.unusedSimpArgs false
/-- a list that its holder grows: only its own block, or new ones -/
structure Sp (w W : World) (B g : Nat) (v : Value) (n : Nat) : Prop where
  kp : Kp (fun i => i = g) w W
  ow : ∃ l, W.ownsRow B 3 1 v n l ∧ l.length = n
  bl : ∀ q, v.ownBlock = some q → q = g ∨ w.heap.size ≤ q
theorem Sp.grow {w W W4 : World} {B g g2 cap n : Nat} {v u : Value} {l : List Value} {o : Obj} (h : Sp w W B g v n) (hl : l.length = n) (hg : (W.alloc o).grownBy W4 v.ownBlock) (ho : W4.ownsRow B 3 1 (.slice (some ⟨g2, 0, none⟩) (n + 1) cap) (n + 1) (l ++ [u])) (hat : v.ownBlock = some g2 ∨ g2 = W.heap.size + 1) :
    Sp w W4 B g (.slice (some ⟨g2, 0, none⟩) (n + 1) cap) (n + 1) := by
  refine ⟨(h.kp.trans (Kp.alloc W o (fun i => i = g)) (fun _ _ e => e)).trans (Kp.of_grown hg) (fun i hi e => ?_), ⟨_, ho, by simp [hl]⟩, fun q hq => ?_⟩
  · rcases h.bl i e.symm with e2 | e2
    · exact e2
    · omega
  · have hq : g2 = q := by simpa [Value.ownBlock] using hq
    rcases hat with e | e
    · rw [hq] at e; exact h.bl q e
    · have := h.kp.size; exact .inr (by omega)
set_option maxRecDepth 100000 in
set_option maxHeartbeats 4000000 in
theorem spoil134 {w : World} {B g N : Nat} {l : List Value} (m : Int) (hm : 0 ≤ m ∧ m ≤ 100) (h : w.ownsRow B 3 1 (.slice (some ⟨g, 0, none⟩) N N) N l) (hll : l.length = N) (hB : B ≤ w.heap.size) (hl : N ≤ 4398046511104) :
    Calls Try.prog 134 #[.slice (some ⟨g, 0, none⟩) N N, .int .i64 m] w fun e w' => (∃ v, e = .returned v) ∧ Kp (fun i => i = g) w w' := by
  obtain ⟨i3, hi3, hy0, hy1, hy2⟩ := info_parts info3s
  have HH := hide (And.intro hB hl)
  have H0 : Hid (Kp (fun i => i = g) w w ∧ ∃ l', w.ownsRow B 3 1 (.slice (some ⟨g, 0, none⟩) N N) N l' ∧ l'.length = N) := hide ⟨Kp.refl _ _, l, h, hll⟩
  have w2 : wrap64 (m + 1) = m + 1 := by unfold wrap64; omega
  clear h hll hB hl hm
  go_enter Try.func134, Try.ntmps134
  go_wp2_with fail
  go_loopw [4] (fun s4 wr => ∃ j : Nat, s4 = .int .i64 (j : Int) ∧ j ≤ N ∧ Hid (Kp (fun i => i = g) w wr ∧ ∃ l', wr.ownsRow B 3 1 (.slice (some ⟨g, 0, none⟩) N N) N l' ∧ l'.length = N)) (fun s4 _ => N - (intOf s4).toNat)
  case atStart => exact ⟨0, rfl, Nat.zero_le _, H0.out⟩
  case round =>
    clear H0
    obtain ⟨j, rfl, hj, hh⟩ := hrel
    by_cases hlt : j < N
    · obtain ⟨kw, l', ho, hl'⟩ := hh.out
      obtain ⟨u, hu⟩ : ∃ u, l'[j]? = some u := ⟨_, List.getElem?_eq_getElem (by omega)⟩
      obtain ⟨r, cap, e, hc⟩ := rowI_at (i := j) (u := u) ho hl' hu
      cases e
      obtain ⟨cur, hcur⟩ := own_obj ho rfl
      have f1 := free3 hcur j
      have hltI : (j : Int) < (N : Int) := by omega
      have hj0 : (0 : Int) ≤ (j : Int) := by omega
      have w1 := wq (j : Int) hj0 (by have := HH.out; omega)
      have HN : Hid ((Kp (fun i => i = g) w (wr.setCell ⟨g, j, none⟩ (.int .i64 m)) ∧ ∃ l', (wr.setCell ⟨g, j, none⟩ (.int .i64 m)).ownsRow B 3 1 (.slice (some ⟨g, 0, none⟩) N N) N l' ∧ l'.length = N) ∧ j < N) := hide ⟨⟨kw.trans (Kp.setCell wr ⟨g, j, none⟩ _) (fun _ _ e => e), _, own_set1 ho hlt (.int .i64 m), by simp [hl']⟩, hlt⟩
      clear kw ho hl' hu hcur hj hlt hh
      go_wp2_with fail
      rw [w1]
      exact ⟨⟨j + 1, by go_num, sq HN.out.2, hide HN.out.1⟩, mq HN.out.2⟩
    · obtain rfl : j = N := by omega
      have hge : ¬ (j : Int) < (j : Int) := by omega
      have HS : Hid (Sp w wr B g (.slice (some ⟨g, 0, none⟩) j j) (j + 0)) := hide ⟨hh.out.1, hh.out.2, fun q hq => .inl (Option.some.inj hq).symm⟩
      clear hh hj hlt
      go_wp2_with fail
      clear hge
      go_loopw [5, 0] (fun s5 s0 wr2 => ∃ (i : Nat) (va : Value), s5 = .int .i64 (i : Int) ∧ va = s0 ∧ i ≤ 5 ∧ Hid (Sp w wr2 B g va (j + i))) (fun s5 _ _ => 5 - (intOf s5).toNat)
      case atStart => exact ⟨0, _, rfl, rfl, by omega, HS⟩
      case round =>
        clear HS
        generalize wr = wz at *
        obtain ⟨i, va, rfl, rfl, hi, hS⟩ := hrel
        by_cases hlt : i < 5
        · obtain ⟨l', ho, hl'⟩ := hS.out.ow
          have kA := Kp.alloc wz (.cells #[.int .i64 (m + 1)] 3) Nu
          have oA : (wz.alloc (.cells #[.int .i64 (m + 1)] 3)).ownsRow B 3 1 va (j + i) l' := own_keep ho (fun q hq => kA.block q (own_lt ho hq) (fun h => h))
          have hltI : (i : Int) < 5 := by omega
          have hi0 : (0 : Int) ≤ (i : Int) := by omega
          have w1 := wq (i : Int) hi0 (by omega)
          have HA := hide (And.intro oA (And.intro hS.out (And.intro hl' hlt)))
          have HB : Hid (j + i + 1 ≤ maxLen ∧ (j + i + 1) * 8 ≤ 140737488355328 ∧ B ≤ wz.heap.size + 1) := hide ⟨by have := HH.out.2; unfold maxLen; omega, by have := HH.out.2; omega, by have h1 := HH.out.1; have h2 := hS.out.kp.size; omega⟩
          clear ho hl' oA kA hi hlt hS
          go_wp2_with (at_builtin; refine wpList_append_lies _ rfl (.tmp 20) (.tmp 23) 47 rfl B 3 i3 (.int .i64 0) 1 8 Try.underlying47 hi3 hy0 hy1 hy2 rfl (by decide) va (j + i) l' rfl HA.out.1 ⟨wz.heap.size, 0, none⟩ 1 1 [.int .i64 (m + 1)] rfl rfl (cell_one_new wz _ 3) (by simp [Value.oneCell']) (by decide) HB.out.1 HB.out.2.1 (by rw [World.size_alloc]; exact HB.out.2.2) (wz.heap.size + 1) (World.size_alloc _ _) ?_; intro g2 gcap w4 ho hg hgat hglt; have hW := hide (HA.out.2.1.grow HA.out.2.2.1 hg ho hgat); clear ho hg hgat hglt)
          exact ⟨⟨i + 1, _, by go_num, rfl, by have := HA.out.2.2.2; omega, hW⟩, mq HA.out.2.2.2⟩
        · obtain rfl : i = 5 := by omega
          have HK := hide hS.out.kp
          clear hS hi hlt
          go_wp2_with fail
          go_end0
          exact ⟨⟨_, rfl⟩, HK.out⟩
end Go.Proofs.Ytchealdgncgjoaa.StM
namespace Go.Proofs.Ytchealdgncgjoaa.StM
open Go.RowKit Go.Proofs.Ytchealdgncgjoaa.St Go.Shelf Go.Sort Go.Proofs.Ytchealdgncgjoaa.It Go.Proofs.Ytchealdgncgjoaa.StI
set_option linter.unusedVariables false
set_option linter.unusedSimpArgs false
/-- a map of the program's and the document's, with the same pairs -/
structure Mq (bw : Nat) (wh : Int) (B : Nat) (W : World) (mb rb : Nat) (vk vv : Value) (t : T (Int × Int)) : Prop where
  m : Mp bw wh W mb t
  r : Rm B W rb wh vk vv t.xs
  hb : bw < B
  hB : B ≤ W.heap.size
theorem Mq.nu {bw : Nat} {wh : Int} {B : Nat} {W Z : World} {mb rb : Nat} {vk vv : Value} {t : T (Int × Int)} (h : Mq bw wh B W mb rb vk vv t) (k : Kp Nu W Z) : Mq bw wh B Z mb rb vk vv t :=
  ⟨h.m.nu k, h.r.nu k, h.hb, Nat.le_trans h.hB k.size⟩
theorem ok_int (o : Option (Int × Int)) : ∃ n : Int, ok o = .int .i64 n := by
  cases o with
  | none => exact ⟨0, rfl⟩
  | some p => exact ⟨p.1, rfl⟩
theorem ov_int (o : Option (Int × Int)) : ∃ n : Int, ov o = .int .i64 n := by
  cases o with
  | none => exact ⟨0, rfl⟩
  | some p => exact ⟨p.2, rfl⟩
/-- the box of a step -/
abbrev opc (kd mm k v : Int) : Obj := .cells #[.int .i64 kd, .int .i64 mm, .int .i64 k, .int .i64 v] 111
theorem opc_cells (W : World) (kd mm k v : Int) : ∀ Z, Kp Nu (W.alloc (opc kd mm k v)) Z → Z.cell? ⟨W.heap.size, 0, none⟩ = some (.int .i64 kd) ∧ Z.cell? ⟨W.heap.size, 1, none⟩ = some (.int .i64 mm) ∧ Z.cell? ⟨W.heap.size, 2, none⟩ = some (.int .i64 k) ∧ Z.cell? ⟨W.heap.size, 3, none⟩ = some (.int .i64 v) := fun Z q => by
  have h := (q.block _ (blk_lt (heap_alloc_new W (opc kd mm k v))) (fun h => h)).trans (heap_alloc_new W (opc kd mm k v))
  refine ⟨?_, ?_, ?_, ?_⟩ <;> simp [World.cell?, h]
section
variable {bw : Nat} {wh : Int} {B : Nat} {w : World} {mb rb : Nat} {vk vv : Value} {t : T (Int × Int)}
theorem rank102 (h : Rm B w rb wh vk vv t.xs) (ho : Oc wh (cmpW wh)) (hs : Srt (cmpW wh) t.xs) (k : Int) (hl : t.xs.length ≤ 17592186044000) :
    Calls Try.prog 102 #[.pointer (some ⟨rb, 0, none⟩), .int .i64 k] w fun e w' => e = .returned (.int .i64 ((T.fd (sd wh k) t).1 : Int)) ∧ Kp Nu w w' := by
  have := rrank_any h ho k (by omega)
  rwa [ahead_fd hs k] at this
set_option maxRecDepth 100000 in
set_option maxHeartbeats 2000000 in
theorem seek_rank (h : Mq bw wh B w mb rb vk vv t) (ho : Oc wh (cmpW wh)) (kd mm k v : Int) (hk : kd = 5) (hl : t.sz ≤ 4398046511104) :
    Calls Try.prog 135 #[.pointer (some ⟨mb, 0, none⟩), .pointer (some ⟨rb, 0, none⟩), .agg #[.int .i64 kd, .int .i64 mm, .int .i64 k, .int .i64 v]] w fun e w' => e = .returned (.bool true) ∧ Kp Nu w w' := by
  subst hk
  have HS := opc_cells w 5 mm k v
  obtain ⟨x0, x1, x2, x3⟩ := HS _ (Kp.refl Nu _)
  have KA := Kp.alloc w (opc 5 mm k v) Nu
  have HM := hide (h.nu KA)
  have HL : Hid (t.xs.length ≤ 17592186044000 ∧ t.sz + 1 < 2 ^ 62 ∧ t.sz < 2 ^ 62) := hide ⟨by rw [T.xs_length]; omega, by omega, by omega⟩
  have HK := hide KA
  have HO := hide ho
  have PA := rank_any HM.out.m k HL.out.2.1
  have DD := fun Z (q : Kp Nu (w.alloc (opc 5 mm k v)) Z) => rank102 (HM.out.r.nu q) ho HM.out.m.srt k HL.out.1
  clear h ho hl KA
  go_enter Try.func135, Try.ntmps135
  go_wp2_with fail
  refine PA.mono ?_
  rintro e w1 ⟨rfl, k1⟩
  have DA := DD w1 k1
  obtain ⟨y0, y1, y2, y3⟩ := HS w1 k1
  have H1 := hide k1
  clear PA DD HS k1 x0 x1 x2 x3
  go_wp2_with fail
  refine DA.mono ?_
  rintro e w2 ⟨rfl, k2⟩
  have H2 := hide k2
  clear DA k2
  go_wp2_with fail
  go_ret
  exact ⟨by simp, (HK.out.andNu H1.out).andNu H2.out⟩
set_option maxRecDepth 100000 in
set_option maxHeartbeats 2000000 in
theorem seek_at (h : Mq bw wh B w mb rb vk vv t) (ho : Oc wh (cmpW wh)) (kd mm k v : Int) (hk : kd = 6) (hk2 : k ≤ 9223372036854775807) (hl : t.sz ≤ 4398046511104) :
    Calls Try.prog 135 #[.pointer (some ⟨mb, 0, none⟩), .pointer (some ⟨rb, 0, none⟩), .agg #[.int .i64 kd, .int .i64 mm, .int .i64 k, .int .i64 v]] w fun e w' => e = .returned (.bool true) ∧ Kp Nu w w' := by
  subst hk
  have HS := opc_cells w 6 mm k v
  obtain ⟨x0, x1, x2, x3⟩ := HS _ (Kp.refl Nu _)
  have KA := Kp.alloc w (opc 6 mm k v) Nu
  have HM := hide (h.nu KA)
  have HL : Hid (t.xs.length ≤ 17592186044000 ∧ t.sz + 1 < 2 ^ 62 ∧ t.sz < 2 ^ 62) := hide ⟨by rw [T.xs_length]; omega, by omega, by omega⟩
  have HK := hide KA
  have HO := hide ho
  have PA := At_any HM.out.m k hk2 HL.out.2.2
  have DD := fun Z (q : Kp Nu (w.alloc (opc 6 mm k v)) Z) => at180 (HM.out.r.nu q) k HL.out.1
  rw [atT_L] at PA
  obtain ⟨n1, e1⟩ := ok_int (atL t.xs k)
  obtain ⟨n2, e2⟩ := ov_int (atL t.xs k)
  rw [e1, e2] at PA DD
  have b1 : (n1 == n1) = true := by simp
  have b2 : (n2 == n2) = true := by simp
  have b3 : ((atL t.xs k).isSome == (atL t.xs k).isSome) = true := by simp
  clear h ho hl KA hk2 e1 e2
  go_enter Try.func135, Try.ntmps135
  go_wp2_with fail
  refine PA.mono ?_
  rintro e w1 ⟨rfl, k1⟩
  have DA := DD w1 k1
  obtain ⟨y0, y1, y2, y3⟩ := HS w1 k1
  have H1 := hide k1
  clear PA DD HS k1 x0 x1 x2 x3
  go_wp2_with fail
  refine DA.mono ?_
  rintro e w2 ⟨rfl, q2, hq2⟩
  have H2 : Hid (Kp Nu w1 w2) := hide (by rw [hq2]; exact kp_dn _ _)
  clear DA hq2
  go_wp2_with fail
  go_ret
  exact ⟨rfl, (HK.out.andNu H1.out).andNu H2.out⟩
set_option maxRecDepth 100000 in
set_option maxHeartbeats 2000000 in
theorem seek_fc (h : Mq bw wh B w mb rb vk vv t) (ho : Oc wh (cmpW wh)) (kd mm k v : Int) (n5 : (kd == 5) = false) (n6 : (kd == 6) = false) (hl : t.sz ≤ 4398046511104) :
    Calls Try.prog 135 #[.pointer (some ⟨mb, 0, none⟩), .pointer (some ⟨rb, 0, none⟩), .agg #[.int .i64 kd, .int .i64 mm, .int .i64 k, .int .i64 v]] w fun e w' => e = .returned (.bool true) ∧ Kp Nu w w' := by
  have HS := opc_cells w kd mm k v
  obtain ⟨x0, x1, x2, x3⟩ := HS _ (Kp.refl Nu _)
  have KA := Kp.alloc w (opc kd mm k v) Nu
  have HM := hide (h.nu KA)
  have HL : Hid (t.xs.length ≤ 17592186044000 ∧ t.sz + 1 < 2 ^ 62 ∧ t.sz < 2 ^ 62) := hide ⟨by rw [T.xs_length]; omega, by omega, by omega⟩
  have HK := hide KA
  have HO := hide ho
  have PA := floor_any HM.out.m k HL.out.2.1
  have DD := fun Z (q : Kp Nu (w.alloc (opc kd mm k v)) Z) => floor181 (HM.out.r.nu q) ho HM.out.m.srt k HL.out.1
  have PC := fun Z (q : Kp Nu (w.alloc (opc kd mm k v)) Z) => ceil_any (HM.out.m.nu q) k HL.out.2.1
  have DC := fun Z (q : Kp Nu (w.alloc (opc kd mm k v)) Z) => ceil182 (HM.out.r.nu q) ho HM.out.m.srt k HL.out.1
  obtain ⟨n1, e1⟩ := ok_int (floorT wh k t)
  obtain ⟨n2, e2⟩ := ov_int (floorT wh k t)
  obtain ⟨n3, e3⟩ := ok_int (ceilT wh k t)
  obtain ⟨n4, e4⟩ := ov_int (ceilT wh k t)
  rw [e1, e2] at PA DD
  rw [e3, e4] at PC DC
  have b1 : (n1 != n1) = false := by simp
  have b2 : (n2 != n2) = false := by simp
  have b3 : ((floorT wh k t).isSome != (floorT wh k t).isSome) = false := by simp
  have b4 : (n3 == n3) = true := by simp
  have b5 : (n4 == n4) = true := by simp
  have b6 : ((ceilT wh k t).isSome == (ceilT wh k t).isSome) = true := by simp
  clear h ho hl KA e1 e2 e3 e4
  go_enter Try.func135, Try.ntmps135
  go_wp2_with fail
  refine PA.mono ?_
  rintro e w1 ⟨rfl, k1⟩
  have DA := DD w1 k1
  obtain ⟨y0, y1, y2, y3⟩ := HS w1 k1
  have H1 := hide k1
  clear PA DD k1 x0 x1 x2 x3
  go_wp2_with fail
  refine DA.mono ?_
  rintro e w2 ⟨rfl, q2, hq2⟩
  have H2 : Hid (Kp Nu (w.alloc (opc kd mm k v)) w2) := hide (by rw [hq2]; exact H1.out.andNu (kp_dn _ _))
  have PC2 := PC w2 H2.out
  obtain ⟨z0, z1, z2, z3⟩ := HS w2 H2.out
  clear DA hq2 PC y0 y1 y2 y3
  go_wp2_with fail
  refine PC2.mono ?_
  rintro e w3 ⟨rfl, k3⟩
  have H3 : Hid (Kp Nu (w.alloc (opc kd mm k v)) w3) := hide (H2.out.andNu k3)
  have DC3 := DC w3 H3.out
  obtain ⟨u0, u1, u2, u3⟩ := HS w3 H3.out
  clear PC2 DC k3 z0 z1 z2 z3 HS
  go_wp2_with fail
  refine DC3.mono ?_
  rintro e w4 ⟨rfl, q4, hq4⟩
  have H4 : Hid (Kp Nu w w4) := hide (by rw [hq4]; exact (HK.out.andNu H3.out).andNu (kp_dn _ _))
  clear DC3 hq4
  go_wp2_with fail
  go_ret
  exact ⟨rfl, H4.out⟩
theorem seeks135 (h : Mq bw wh B w mb rb vk vv t) (ho : Oc wh (cmpW wh)) (kd mm k v : Int) (hk : k ≤ 9223372036854775807) (hl : t.sz ≤ 4398046511104) :
    Calls Try.prog 135 #[.pointer (some ⟨mb, 0, none⟩), .pointer (some ⟨rb, 0, none⟩), .agg #[.int .i64 kd, .int .i64 mm, .int .i64 k, .int .i64 v]] w fun e w' => e = .returned (.bool true) ∧ Kp Nu w w' := by
  by_cases h5 : kd = 5
  · exact seek_rank h ho kd mm k v h5 hl
  by_cases h6 : kd = 6
  · exact seek_at h ho kd mm k v h6 hk hl
  · exact seek_fc h ho kd mm k v (by simpa using h5) (by simpa using h6) hl
end
end Go.Proofs.Ytchealdgncgjoaa.StM
namespace Go.Proofs.Ytchealdgncgjoaa.StM
open Go.RowKit Go.Proofs.Ytchealdgncgjoaa.St Go.Shelf Go.Sort Go.Proofs.Ytchealdgncgjoaa.It Go.Proofs.Ytchealdgncgjoaa.StI
set_option linter.unusedVariables false
set_option linter.unusedSimpArgs false
theorem opc_at {W Z : World} {b : Nat} {kd mm k v : Int} (h : Z.heap[b]? = some (opc kd mm k v)) : Z.cell? ⟨b, 0, none⟩ = some (.int .i64 kd) ∧ Z.cell? ⟨b, 1, none⟩ = some (.int .i64 mm) ∧ Z.cell? ⟨b, 2, none⟩ = some (.int .i64 k) ∧ Z.cell? ⟨b, 3, none⟩ = some (.int .i64 v) := by
  refine ⟨?_, ?_, ?_, ?_⟩ <;> simp [World.cell?, h]
section
variable {bw : Nat} {wh : Int} {B : Nat} {w : World} {mb rb : Nat} {vk vv : Value} {t : T (Int × Int)}
theorem kp_three {wA w1 w2 : World} (kA : Kp Nu w wA) (k1 : Kp (fun i => i = mb) wA w1) (k2 : Kp (fun i => i = rb ∨ vv.ownBlock = some i) w1 w2) : Kp (fun i => i = mb ∨ i = rb ∨ vv.ownBlock = some i) w w2 := by
  have a : Kp (fun i => i = mb ∨ i = rb ∨ vv.ownBlock = some i) w wA := kA.mono (fun _ _ e => e.elim)
  exact (a.trans k1 (fun i _ e => .inl e)).trans k2 (fun i _ e => .inr e)
/-- what a step leaves -/
structure Sq (bw : Nat) (wh : Int) (B : Nat) (w : World) (mb rb : Nat) (vk vv : Value) (t : T (Int × Int)) (W : World) : Prop where
  ex : ∃ vk' vv' t', Mq bw wh B W mb rb vk' vv' t' ∧ t'.sz ≤ t.sz + 1 ∧ (∀ g, vk'.ownBlock = some g → vk.ownBlock = some g ∨ w.heap.size ≤ g) ∧ (∀ g, vv'.ownBlock = some g → vv.ownBlock = some g ∨ w.heap.size ≤ g)
  kp : Kp (fun i => i = mb ∨ i = rb ∨ vv.ownBlock = some i) w W
theorem Sq.stay {W : World} (h : Mq bw wh B w mb rb vk vv t) (k : Kp Nu w W) : Sq bw wh B w mb rb vk vv t W :=
  ⟨⟨vk, vv, t, h.nu k, by omega, fun _ e => .inl e, fun _ e => .inl e⟩, k.mono (fun _ _ e => e.elim)⟩
theorem Sq.moved {wA w1 w2 : World} {t' : T (Int × Int)} {vk' vv' : Value} (h : Mq bw wh B w mb rb vk vv t) (kA : Kp Nu w wA) (k1 : Kp (fun i => i = mb) wA w1) (m1 : Mp bw wh w1 mb t') (r1 : Rm B w1 rb wh vk vv t.xs) (k2 : Kp (fun i => i = rb ∨ vv.ownBlock = some i) w1 w2) (r2 : Rm B w2 rb wh vk' vv' t'.xs) (hs : t'.sz ≤ t.sz + 1)
    (o1 : ∀ g, vk'.ownBlock = some g → vk.ownBlock = some g ∨ w1.heap.size ≤ g) (o2 : ∀ g, vv'.ownBlock = some g → vv.ownBlock = some g ∨ w1.heap.size ≤ g) : Sq bw wh B w mb rb vk vv t w2 := by
  have s1 := kA.size
  have s2 := k1.size
  have s3 := k2.size
  have s4 := h.hB
  exact ⟨⟨vk', vv', t', ⟨keepR m1 h.hb r1 k2, r2, h.hb, by omega⟩, hs, fun g e => (o1 g e).imp id (fun e => by omega), fun g e => (o2 g e).imp id (fun e => by omega)⟩,
    kp_three kA k1 k2⟩
set_option maxRecDepth 100000 in
set_option maxHeartbeats 2000000 in
theorem step_put (h : Mq bw wh B w mb rb vk vv t) (ho : Oc wh (cmpW wh)) (kd mm k v : Int) (hk : kd = 1) (hl : t.sz ≤ 4398046511104) :
    Calls Try.prog 70 #[.pointer (some ⟨mb, 0, none⟩), .pointer (some ⟨rb, 0, none⟩), .agg #[.int .i64 kd, .int .i64 mm, .int .i64 k, .int .i64 v]] w fun e w' => e = .returned (.bool true) ∧ Sq bw wh B w mb rb vk vv t w' := by
  subst hk
  have HS := heap_alloc_new w (opc 1 mm k v)
  obtain ⟨x0, x1, x2, x3⟩ := opc_at (W := w) HS
  have KA := Kp.alloc w (opc 1 mm k v) Nu
  have HM := hide (h.nu KA)
  have H0 := hide h
  have HL : Hid (t.xs.length ≤ 17592186044000 ∧ t.sz + 1 < 2 ^ 62 ∧ t.sz < 2 ^ 62) := hide ⟨by rw [T.xs_length]; omega, by omega, by omega⟩
  have HK := hide KA
  have HO := hide ho
  have PA := put_any HM.out.m k v HL.out.2.1
  have hmb : w.heap.size ≠ mb := by have := h.m.lt; omega
  obtain ⟨n1, e1⟩ := ov_int (getT wh k t)
  rw [e1] at PA
  have b1 : (n1 == n1) = true := by simp
  have b2 : ((T.fd (sd wh k) t).2 == (T.fd (sd wh k) t).2) = true := by simp
  clear h ho hl KA
  go_enter Try.func70, Try.ntmps70
  go_wp2_with fail
  refine PA.mono ?_
  rintro e w1 ⟨rfl, m1, k1⟩
  have R1 : Rm B w1 rb wh vk vv t.xs := keepM HM.out.r HM.out.m k1
  have DA := rput_TN R1 HO.out H0.out.m.srt (by have := H0.out.hB; have := HK.out.size; have := k1.size; omega) k v HL.out.1
  rw [e1] at DA
  obtain ⟨y0, y1, y2, y3⟩ := opc_at (W := w) ((k1.block _ (blk_lt HS) hmb).trans HS)
  have H1 := hide (And.intro m1 (And.intro k1 R1))
  clear PA HS k1 m1 R1 x0 x1 x2 x3 e1 hmb
  go_wp2_with fail
  refine DA.mono ?_
  rintro e w2 ⟨rfl, ⟨vk', vv', r2, o1, o2⟩, k2⟩
  have HF : Hid (Sq bw wh B w mb rb vk vv t w2) := hide (Sq.moved H0.out HK.out H1.out.2.1 H1.out.1 H1.out.2.2 k2 r2 (by rw [put_sz]; split <;> omega) o1 o2)
  clear DA r2 o1 o2 k2
  go_wp2_with fail
  go_ret
  exact ⟨rfl, HF.out⟩
set_option maxRecDepth 100000 in
set_option maxHeartbeats 2000000 in
theorem step_del (h : Mq bw wh B w mb rb vk vv t) (ho : Oc wh (cmpW wh)) (kd mm k v : Int) (hk : kd = 3) (hl : t.sz ≤ 4398046511104) :
    Calls Try.prog 70 #[.pointer (some ⟨mb, 0, none⟩), .pointer (some ⟨rb, 0, none⟩), .agg #[.int .i64 kd, .int .i64 mm, .int .i64 k, .int .i64 v]] w fun e w' => e = .returned (.bool true) ∧ Sq bw wh B w mb rb vk vv t w' := by
  subst hk
  have HS := heap_alloc_new w (opc 3 mm k v)
  obtain ⟨x0, x1, x2, x3⟩ := opc_at (W := w) HS
  have KA := Kp.alloc w (opc 3 mm k v) Nu
  have HM := hide (h.nu KA)
  have H0 := hide h
  have HL : Hid (t.xs.length ≤ 17592186044000 ∧ t.sz + 1 < 2 ^ 62 ∧ t.sz < 2 ^ 62) := hide ⟨by rw [T.xs_length]; omega, by omega, by omega⟩
  have HK := hide KA
  have HO := hide ho
  have PA := del_any HM.out.m k HL.out.2.1
  have hmb : w.heap.size ≠ mb := by have := h.m.lt; omega
  obtain ⟨n1, e1⟩ := ov_int (getT wh k t)
  rw [e1] at PA
  have b1 : (n1 == n1) = true := by simp
  have b2 : ((T.fd (sd wh k) t).2 == (T.fd (sd wh k) t).2) = true := by simp
  clear h ho hl KA
  go_enter Try.func70, Try.ntmps70
  go_wp2_with fail
  refine PA.mono ?_
  rintro e w1 ⟨rfl, m1, k1⟩
  have R1 : Rm B w1 rb wh vk vv t.xs := keepM HM.out.r HM.out.m k1
  have DA := rdel_TN R1 HO.out H0.out.m.srt (by have := H0.out.hB; have := HK.out.size; have := k1.size; omega) k HL.out.1
  rw [e1] at DA
  obtain ⟨y0, y1, y2, y3⟩ := opc_at (W := w) ((k1.block _ (blk_lt HS) hmb).trans HS)
  have H1 := hide (And.intro m1 (And.intro k1 R1))
  clear PA HS k1 m1 R1 x0 x1 x2 x3 e1 hmb
  go_wp2_with fail
  refine DA.mono ?_
  rintro e w2 ⟨rfl, ⟨vk', vv', r2, o1, o2⟩, k2⟩
  have HF : Hid (Sq bw wh B w mb rb vk vv t w2) := hide (Sq.moved H0.out HK.out H1.out.2.1 H1.out.1 H1.out.2.2 k2 r2 (by rw [del_sz]; split <;> omega) o1 o2)
  clear DA r2 o1 o2 k2
  go_wp2_with fail
  go_ret
  exact ⟨rfl, HF.out⟩
set_option maxRecDepth 100000 in
set_option maxHeartbeats 2000000 in
theorem step_get (h : Mq bw wh B w mb rb vk vv t) (ho : Oc wh (cmpW wh)) (kd mm k v : Int) (hk : kd = 2) (hl : t.sz ≤ 4398046511104) :
    Calls Try.prog 70 #[.pointer (some ⟨mb, 0, none⟩), .pointer (some ⟨rb, 0, none⟩), .agg #[.int .i64 kd, .int .i64 mm, .int .i64 k, .int .i64 v]] w fun e w' => e = .returned (.bool true) ∧ Sq bw wh B w mb rb vk vv t w' := by
  subst hk
  have HS := heap_alloc_new w (opc 2 mm k v)
  obtain ⟨x0, x1, x2, x3⟩ := opc_at (W := w) HS
  have KA := Kp.alloc w (opc 2 mm k v) Nu
  have HM := hide (h.nu KA)
  have H0 := hide h
  have HL : Hid (t.xs.length ≤ 17592186044000 ∧ t.sz + 1 < 2 ^ 62 ∧ t.sz < 2 ^ 62) := hide ⟨by rw [T.xs_length]; omega, by omega, by omega⟩
  have HK := hide KA
  have HO := hide ho
  have PA := get_any HM.out.m k HL.out.2.1
  have DD := fun Z (q : Kp Nu (w.alloc (opc 2 mm k v)) Z) => get132 (HM.out.r.nu q) ho HM.out.m.srt k HL.out.1
  obtain ⟨n1, e1⟩ := ov_int (getT wh k t)
  rw [e1] at PA DD
  have b1 : (n1 == n1) = true := by simp
  have b2 : ((T.fd (sd wh k) t).2 == (T.fd (sd wh k) t).2) = true := by simp
  clear h ho hl KA e1
  go_enter Try.func70, Try.ntmps70
  go_wp2_with fail
  refine PA.mono ?_
  rintro e w1 ⟨rfl, k1⟩
  have DA := DD w1 k1
  obtain ⟨y0, y1, y2, y3⟩ := opc_at (W := w) ((k1.block _ (blk_lt HS) (fun h => h)).trans HS)
  have H1 := hide k1
  clear PA DD HS k1 x0 x1 x2 x3
  go_wp2_with fail
  refine DA.mono ?_
  rintro e w2 ⟨rfl, k2⟩
  have HF : Hid (Sq bw wh B w mb rb vk vv t w2) := hide (Sq.stay H0.out ((HK.out.andNu H1.out).andNu k2))
  clear DA k2
  go_wp2_with fail
  go_ret
  exact ⟨rfl, HF.out⟩
end
end Go.Proofs.Ytchealdgncgjoaa.StM
