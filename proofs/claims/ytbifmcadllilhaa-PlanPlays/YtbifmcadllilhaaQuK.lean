import Derived.Test.YtbifmcadllilhaaPmY
import Derived.Test.YtbifmcadllilhaaPdO
import Derived.Test.YtbifmcadllilhaaQuI
namespace Go.Proofs.Ytbifmcadllilhaa.Rg
open Go.RowKit Go.Shelf Go.Sort
open Go.Deep
open Go.Proofs.Ytbifmcadllilhaa.It
set_option linter.unusedVariables false
theorem cellsMs_len (M : List Mv) : (cellsMs M).length = M.length * 5 := by
  induction M with
  | nil => rfl
  | cons x r ih => unfold cellsMs at ih ⊢; rw [List.flatMap_cons, List.length_append, ih]; simp [cellsM]; omega
theorem cellsMs_get {M : List Mv} {j : Nat} {u : Value} (h : (cellsMs M)[j]? = some u) : ∃ s, M[j / 5]? = some s ∧ (cellsM s)[j % 5]? = some u := by
  have hlt : j < M.length * 5 := by
    have := (List.getElem?_eq_some_iff.1 h).1
    rwa [cellsMs_len] at this
  obtain ⟨s, hs⟩ : ∃ s, M[j / 5]? = some s := ⟨_, List.getElem?_eq_getElem (by omega)⟩
  refine ⟨s, hs, ?_⟩
  rw [← cellsMs_at M (j / 5) s hs (j % 5) (by omega)]
  have e : j / 5 * 5 + j % 5 = j := by omega
  rw [e]; exact h
/-- moves appended to none: a row of one's own -/
theorem append_mv {w : World} {ops : Array Oper} {rest : List Oper} {op : Oper} {a : Act} {Q : Exit → Act → World → Prop} (hgd : op.guard = none) (s x : Operand)
    (ho : op.op = .call { callee := .builtin .append, args := #[s, x], argTypes := #[37, 37] }) (base : Nat) (va : Option Addr) (vc : Nat) (M : List Mv) (hl : M.length ≤ 4096)
    (hs : a.eval s = .slice none 0 0) (hx : a.eval x = .slice va M.length vc) (hO : Mvs w (.slice va M.length vc) M) (hnil : va = none → vc = 0) (hbase : base ≤ w.heap.size)
    (h : ∀ oa oc w', w'.ownsRow base 59 5 (.slice oa M.length oc) M.length (cellsMs M) → Kp Nu w w' → wpList Try.prog ops Q rest (a.put op.dst (.slice oa M.length oc)) w') : wpList Try.prog ops Q (op :: rest) a w := by
  obtain ⟨i0, hi0, hz0, hz1, hz2⟩ := info_parts info59
  rcases va with _ | ad
  · have hM0 : M = [] := by
      cases M with
      | nil => rfl
      | cons x r =>
        obtain ⟨_, _, e, _⟩ := hO.at_ (i := 0) (m := x) rfl
        cases e
    have hvc := hnil rfl
    subst hM0
    subst hvc
    exact wpList_append_own_none hgd s x 37 ho base 59 i0 5 Try.underlying37 hi0 _ 0 [] hs (World.ownsRow_nil _ _ _ _) hx (h none 0 _ (World.ownsRow_nil _ _ _ _) (Kp.refl _ _))
  · refine wpList_append_own _ hgd s x 37 ho base 59 i0 _ 5 32 Try.underlying37 hi0 hz0 hz1 hz2 rfl (by decide) (.slice none 0 0) 0 [] hs (World.ownsRow_nil _ _ _ _) ad M.length vc (cellsMs M) hx (cellsMs_len M) (fun j x hj => ?_) (fun u hu => ?_) (by unfold maxLen; omega) (by omega) hbase ?_
    · obtain ⟨sg, h1, h2⟩ := cellsMs_get hj
      obtain ⟨b, off, e, q⟩ := hO.at_ h1
      cases e
      rw [Addr.add_lit]
      have e3 : j = j / 5 * 5 + j % 5 := by omega
      have h3 : j % 5 = 0 ∨ j % 5 = 1 ∨ j % 5 = 2 ∨ j % 5 = 3 ∨ j % 5 = 4 := by omega
      rcases h3 with h3 | h3 | h3 | h3 | h3
      · rw [h3] at h2 e3; simp only [cellsM, List.getElem?_cons_zero, Option.some.injEq] at h2
        rw [e3, Nat.add_zero, ← h2]; exact q.c0
      · rw [h3] at h2 e3; simp only [cellsM, List.getElem?_cons_succ, List.getElem?_cons_zero, Option.some.injEq] at h2
        rw [e3, ← Nat.add_assoc, ← h2]; exact q.c1
      · rw [h3] at h2 e3; simp only [cellsM, List.getElem?_cons_succ, List.getElem?_cons_zero, Option.some.injEq] at h2
        rw [e3, ← Nat.add_assoc, ← h2]; exact q.c2
      · rw [h3] at h2 e3; simp only [cellsM, List.getElem?_cons_succ, List.getElem?_cons_zero, Option.some.injEq] at h2
        rw [e3, ← Nat.add_assoc, ← h2]; exact q.c3
      · rw [h3] at h2 e3; simp only [cellsM, List.getElem?_cons_succ, List.getElem?_cons_zero, Option.some.injEq] at h2
        rw [e3, ← Nat.add_assoc, ← h2]; exact q.c4
    · obtain ⟨j, hj⟩ := List.getElem?_of_mem hu
      obtain ⟨sg, _, h2⟩ := cellsMs_get hj
      have hm := List.mem_of_getElem? h2
      simp only [cellsM, List.mem_cons, List.not_mem_nil, or_false] at hm
      rcases hm with rfl | rfl | rfl | rfl | rfl <;> rfl
    · intro v' w' h1 h2 _
      rw [Nat.zero_add, List.nil_append] at h1
      obtain ⟨oa, oc, rfl⟩ := own_slice h1
      exact h oa oc w' h1 ((Kp.of_grown h2).mono (fun i hi e => by simp [Value.ownBlock] at e))
theorem get5 {α : Type} {l : List α} (h : l.length = 5) : ∃ a b c d e, l = [a, b, c, d, e] := by
  match l, h with
  | [a, b, c, d, e], _ => exact ⟨a, b, c, d, e, rfl⟩
theorem cellsOf59 : Try.prog.cellsOf 59 = 5 := by kernel_rfl
theorem bytesOf59 : Try.prog.bytesOf 59 = 32 := by kernel_rfl
section
variable {H : Type} {enc : TypeId × Value → H} {W : World}
theorem open_mv1 {fuel : Nat} {cs0 : List Value} {x : DataW H × List MemPlace} (h : DataW.trod enc Try.prog W 0 (fun _ => true) true fuel 59 cs0 = some x) :
    ∃ m : Mv, cs0 = [.int .u8 m.f, .int .u8 m.t, .int .u64 m.lo, .int .u64 m.hi, .int .i64 m.n] ∧ MvB m := by
  obtain ⟨xs, n, rfl, rfl, hl, hxl, hf⟩ := DataW.trod_struct Try.underlying59 h
  rw [cellsOf59] at hl
  obtain ⟨y0, y1, y2, y3, y4, rfl⟩ := get5 (show xs.length = 5 from hxl)
  obtain ⟨v0, v1, v2, v3, v4, rfl⟩ := get5 hl
  have f0 : DataW.trod enc Try.prog W 0 (fun _ => true) true n 57 [v0] = some y0 := by
    have g : DataW.trod enc Try.prog W 0 (fun _ => true) true n 57 (([v0, v1, v2, v3, v4].drop 0).take (Try.prog.cellsOf 57)) = [y0, y1, y2, y3, y4][0]? := hf 0 _ rfl
    rw [cellsOf22] at g; exact g
  have f1 : DataW.trod enc Try.prog W 0 (fun _ => true) true n 57 [v1] = some y1 := by
    have g : DataW.trod enc Try.prog W 0 (fun _ => true) true n 57 (([v0, v1, v2, v3, v4].drop 1).take (Try.prog.cellsOf 57)) = [y0, y1, y2, y3, y4][1]? := hf 1 _ rfl
    rw [cellsOf22] at g; exact g
  have f2 : DataW.trod enc Try.prog W 0 (fun _ => true) true n 56 [v2] = some y2 := by
    have g : DataW.trod enc Try.prog W 0 (fun _ => true) true n 56 (([v0, v1, v2, v3, v4].drop 2).take (Try.prog.cellsOf 56)) = [y0, y1, y2, y3, y4][2]? := hf 2 _ rfl
    rw [cellsOf29] at g; exact g
  have f3 : DataW.trod enc Try.prog W 0 (fun _ => true) true n 56 [v3] = some y3 := by
    have g : DataW.trod enc Try.prog W 0 (fun _ => true) true n 56 (([v0, v1, v2, v3, v4].drop 3).take (Try.prog.cellsOf 56)) = [y0, y1, y2, y3, y4][3]? := hf 3 _ rfl
    rw [cellsOf29] at g; exact g
  have f4 : DataW.trod enc Try.prog W 0 (fun _ => true) true n 3 [v4] = some y4 := by
    have g : DataW.trod enc Try.prog W 0 (fun _ => true) true n 3 (([v0, v1, v2, v3, v4].drop 4).take (Try.prog.cellsOf 3)) = [y0, y1, y2, y3, y4][4]? := hf 4 _ rfl
    rw [cellsOf3] at g; exact g
  obtain ⟨k0, e0, _, b0⟩ := DataW.trod_int Try.underlying57 f0
  obtain rfl : v0 = .int .u8 k0 := by simpa using e0
  obtain ⟨k1, e1, _, b1⟩ := DataW.trod_int Try.underlying57 f1
  obtain rfl : v1 = .int .u8 k1 := by simpa using e1
  obtain ⟨k2, e2, _, b2⟩ := DataW.trod_int Try.underlying56 f2
  obtain rfl : v2 = .int .u64 k2 := by simpa using e2
  obtain ⟨k3, e3, _, b3⟩ := DataW.trod_int Try.underlying56 f3
  obtain rfl : v3 = .int .u64 k3 := by simpa using e3
  obtain ⟨k4, e4, _, b4⟩ := DataW.trod_int Try.underlying3 f4
  obtain rfl : v4 = .int .i64 k4 := by simpa using e4
  simp [Lit.wf, IntKind.min, IntKind.max, IntKind.signed, IntKind.bits] at b0
  simp [Lit.wf, IntKind.min, IntKind.max, IntKind.signed, IntKind.bits] at b1
  simp [Lit.wf, IntKind.min, IntKind.max, IntKind.signed, IntKind.bits] at b2
  simp [Lit.wf, IntKind.min, IntKind.max, IntKind.signed, IntKind.bits] at b3
  exact ⟨⟨k0, k1, k2, k3, k4⟩, rfl, ⟨by dsimp only; omega, by dsimp only; omega, by dsimp only; omega, by dsimp only; omega, by dsimp only; omega, by dsimp only; omega, by dsimp only; omega, by dsimp only; omega⟩⟩
theorem open_mvs {v0 : Value} {d0 : DataW H} {p0 : List MemPlace} (h : DataW.Trod enc Try.prog W 0 (fun _ => true) true 37 v0 d0 p0) (hone : ∃ a len cap, v0 = .slice a len cap) : ∃ S, Mvs W v0 S := by
  obtain ⟨fuel, hf⟩ := h
  obtain ⟨a0, len0, cap0, rfl⟩ := hone
  have hf' : DataW.trod enc Try.prog W 0 (fun _ => true) true fuel 37 [.slice a0 len0 cap0] = some (d0, p0) := by simpa [Value.cells] using hf
  rcases open_slice Try.underlying37 hf' with ⟨hcs, hx⟩ | ⟨a, len, cap, m, n, D, Pl, hcs, _, hl, hm, hmm, hx, hel⟩
  · simp only [List.cons.injEq, and_true] at hcs
    rw [hcs]
    exact ⟨[], mvs_nil _⟩
  · simp only [List.cons.injEq, and_true] at hcs
    rw [hcs]
    have hml : m = cap := by rw [hmm]; simp
    have each : ∀ i, i < len → ∃ s : Mv, (∀ j, j < 5 → W.cell? (a.add (i * 5 + j)) = [Value.int .u8 s.f, .int .u8 s.t, .int .u64 s.lo, .int .u64 s.hi, .int .i64 s.n][j]?) ∧ MvB s := by
      intro i hi
      obtain ⟨cs', hc, ht⟩ := hel i (by omega)
      rw [cellsOf59] at hc
      obtain ⟨s, rfl, hfit⟩ := open_mv1 ht
      refine ⟨s, fun j hj => ?_, hfit⟩
      obtain ⟨_, _, hcell⟩ := World.cells?_some hc
      have := hcell j hj
      rw [Deep.add_add] at this
      exact this
    haveI : Inhabited Mv := ⟨⟨0, 0, 0, 0, 0⟩⟩
    obtain ⟨f, hf2⟩ := choose_lt (α := Mv) each
    by_cases h0 : len = 0
    · subst h0
      exact ⟨[], ⟨_, _, rfl, fun i m hm => by simp at hm⟩⟩
    · have hsp : a.spot = none := by
        have h1 := (hf2 0 (by omega)).1 0 (by omega)
        have e : a.add (0 * 5 + 0) = a := by simp [Addr.add]
        rw [e] at h1
        simp only [List.getElem?_cons_zero] at h1
        exact spot_none h1
      obtain ⟨ab, ao, sp⟩ := a
      simp only at hsp
      subst hsp
      refine ⟨(List.range len).map f, ⟨some ⟨ab, ao, none⟩, cap, by simp, fun i s hs => ?_⟩⟩
      have hi : i < len := by
        have := (List.getElem?_eq_some_iff.1 hs).1
        simpa using this
      have hs' : f i = s := by simpa [hi] using hs
      subst hs'
      obtain ⟨hc, hfit⟩ := hf2 i hi
      have c := fun j hj => hc j hj
      simp only [Addr.add_lit] at c
      refine ⟨ab, ao, rfl, ⟨by simpa using c 0 (by omega), ?_, ?_, ?_, ?_, hfit⟩⟩
      · have := c 1 (by omega); rw [← Nat.add_assoc] at this; simpa using this
      · have := c 2 (by omega); rw [← Nat.add_assoc] at this; simpa using this
      · have := c 3 (by omega); rw [← Nat.add_assoc] at this; simpa using this
      · have := c 4 (by omega); rw [← Nat.add_assoc] at this; simpa using this
end
end Go.Proofs.Ytbifmcadllilhaa.Rg
namespace Go.Proofs.Ytbifmcadllilhaa.Rg
open Go.RowKit Go.Shelf Go.Sort
open Go.Proofs.Ytbifmcadllilhaa.It
set_option linter.unusedVariables false
theorem pl_tab : ∀ {ms : List Mv} {L R : List Sg}, (∀ m ∈ ms, MvB m) → Tab L → pl L ms = some R → Tab R
  | [], L, R, _, h, e => by
    have : some L = some R := e
    cases this; exact h
  | m :: r, L, R, hb, h, e => by
    by_cases c : Mok m ∧ Own L m.lo m.hi m.f
    · rw [pl_yes c] at e
      have hm := hb m (by simp)
      exact pl_tab (fun x hx => hb x (by simp [hx])) (asg_facts h hm.l0 c.1.1 hm.h1 hm.t0 c.1.2.2.1).1 e
    · rw [pl_no c] at e; cases e
theorem sgs_nil (w : World) : Sgs w (.slice none 0 0) [] := .inl ⟨⟨_, _, rfl⟩, rfl⟩
theorem plr_two {w0 w1 w2 w3 : World} {M : List Sg} {ms : List Mv} {v v' : Value} {c c' : Int} (hb : ∀ m ∈ ms, MvB m) (hs : ∀ s ∈ M, SgB s) (h : PlR w0 w1 M ms v c) (h' : PlR w2 w3 M ms v' c') : c = c' ∧ ∃ R : List Sg, R.length ≤ 16384 ∧ Sgs w1 v R ∧ Sgs w3 v' R := by
  rcases h with ⟨h1, rfl, rfl⟩ | ⟨h1, h2, rfl, rfl⟩ | ⟨h1, rfl, R, h2, h3, h4⟩
  · rcases h' with ⟨_, rfl, rfl⟩ | ⟨g1, _⟩ | ⟨g1, _⟩
    · exact ⟨rfl, [], by simp, sgs_nil _, sgs_nil _⟩
    · exact absurd g1 h1
    · exact absurd g1 h1
  · rcases h' with ⟨g1, _⟩ | ⟨_, _, rfl, rfl⟩ | ⟨_, _, R, g2, _⟩
    · exact absurd h1 g1
    · exact ⟨rfl, [], by simp, sgs_nil _, sgs_nil _⟩
    · rw [h2] at g2; cases g2
  · rcases h' with ⟨g1, _⟩ | ⟨_, g2, _⟩ | ⟨_, rfl, R', g2, _, g4⟩
    · exact absurd h1 g1
    · rw [h2] at g2; cases g2
    · rw [h2] at g2; cases g2
      have tab := pl_tab hb (lok_good h1.1 h1.2.1 hs).tab h2
      exact ⟨rfl, R, h3, Sgs.of_own h4 tab.sgb, Sgs.of_own g4 tab.sgb⟩
set_option maxRecDepth 100000 in
set_option maxHeartbeats 2000000 in
theorem plays_walk (w : World) (ad : Option Addr) (cap : Nat) (M : List Sg) (a1 : Option Addr) (c1 : Nat) (ms : List Mv) (hM : Sgs w (.slice ad M.length cap) M) (hnM : ad = none → cap = 0) (hlen : (M.length : Int) ≤ 5864062014634) (hk : Mvs w (.slice a1 ms.length c1) ms) (hnk : a1 = none → c1 = 0) :
    Calls Try.prog 5 #[.slice ad M.length cap, .slice a1 ms.length c1] w fun e w' => e = .returned (.bool true) ∧ Kp Nu w w' := by
  have hMl : M.length ≤ 5864062014634 := by omega
  by_cases q1 : (M.length : Int) > 4096
  · have d1 : decide ((M.length : Int) > 4096) = true := by simpa using q1
    clear hM hnM hlen hk hnk hMl q1
    go_enter Try.func5, Try.ntmps5
    go_wp2
    go_ret
    exact ⟨rfl, Kp.refl _ _⟩
  have d1 : decide ((M.length : Int) > 4096) = false := by simpa using q1
  by_cases q2 : (ms.length : Int) > 4096
  · have d2 : decide ((ms.length : Int) > 4096) = true := by simpa using q2
    clear hM hnM hlen hk hnk hMl q1 q2
    go_enter Try.func5, Try.ntmps5
    go_wp2
    go_ret
    exact ⟨rfl, Kp.refl _ _⟩
  have d2 : decide ((ms.length : Int) > 4096) = false := by simpa using q2
  have hk4 : ms.length ≤ 4096 := by omega
  have HH := hide (And.intro hM (And.intro hk (And.intro hlen (And.intro hnM (And.intro hnk (And.intro hMl hk4))))))
  clear hM hk hlen hnM hnk hMl q1 q2 hk4
  go_enter Try.func5, Try.ntmps5
  go_wp2_with (first
    | (at_builtin; refine append_sg rfl _ _ rfl w.heap.size ad cap M HH.out.2.2.2.2.2.1 rfl rfl HH.out.1 HH.out.2.2.2.1 (Nat.le_refl _) ?_; intro oa oc wA hA1 hA2; have HA := hide (And.intro hA1 hA2); clear hA1 hA2)
    | (at_builtin; refine append_mv rfl _ _ rfl wA.heap.size a1 c1 ms HH.out.2.2.2.2.2.2 rfl rfl (HH.out.2.1.nu HA.out.2) HH.out.2.2.2.2.1 (Nat.le_refl _) ?_; intro ob od wB hB1 hB2; have HB := hide (And.intro hB1 hB2); clear hB1 hB2))
  have kB := HA.out.2.andNu HB.out.2
  have hmb := HH.out.2.1.mvb
  have L1 := play15 wB _ _ M ms (HH.out.1.nu kB) HH.out.2.2.1 (HH.out.2.1.nu kB) HH.out.2.2.2.2.2.2
  refine L1.mono ?_
  rintro e w1 ⟨v, c, rfl, hL1, hk1⟩
  have hs := Sgs.of_own HA.out.1 HH.out.1.sgb
  have hs1 := (hs.nu HB.out.2).nu hk1
  have hu1 := (mvs_of_own HB.out.1 hmb).nu hk1
  have L2 := rplay16 w1 _ _ M ms hs1 HH.out.2.2.1 hu1 HH.out.2.2.2.2.2.2
  have H1 := hide (And.intro hL1 (And.intro (kB.andNu hk1) (And.intro hs1 hu1)))
  clear L1 kB hL1 hk1 hs hs1 hu1
  go_wp2_with fail
  refine L2.mono ?_
  rintro e w2 ⟨v', c', rfl, hL2, hk2⟩
  obtain ⟨hc, o, ho, n1, n2⟩ := plr_two hmb HH.out.1.sgb H1.out.1 hL2
  subst hc
  have S1 := sameSegments17 w2 v v' o (n1.nu hk2) n2 (by omega)
  have H2 := hide (And.intro (H1.out.2.1.andNu hk2) hk2)
  clear L2 hL2 hk2 ho n1 n2 hmb
  go_wp2_with fail
  refine S1.mono ?_
  rintro e w3 ⟨rfl, hk3⟩
  have k03 := H2.out.1.andNu hk3
  have k13 := H2.out.2.andNu hk3
  have S2 := sameSegments17 w3 _ _ M (HH.out.1.nu k03) (H1.out.2.2.1.nu k13) HH.out.2.2.2.2.2.1
  have H3 := hide (And.intro k03 k13)
  clear S1 hk3 k03 k13
  go_wp2_with fail
  refine S2.mono ?_
  rintro e w4 ⟨rfl, hk4⟩
  have S3 := sameMoves18 w4 _ _ ms ((HH.out.2.1.nu H3.out.1).nu hk4) ((H1.out.2.2.2.nu H3.out.2).nu hk4) (by have := HH.out.2.2.2.2.2.2; omega)
  have H4 := hide (H3.out.1.andNu hk4)
  clear S2 hk4
  go_wp2_with fail
  refine S3.mono ?_
  rintro e w5 ⟨rfl, hk5⟩
  have NU := Pn.num12 w5 c
  have H5 := hide (H4.out.andNu hk5)
  have hcc : (c == c) = true := by simp
  clear S3 hk5
  go_wp2_with fail
  refine NU.mono ?_; rintro e w6 ⟨rfl, hw⟩
  obtain rfl := hw
  clear NU
  go_wp2
  go_ret
  exact ⟨rfl, H5.out⟩
end Go.Proofs.Ytbifmcadllilhaa.Rg
