import Derived.Test.YtbifmcadllilhaaGreatPvA
import Derived.Test.YtbifmcadllilhaaGreatPvF
import Derived.Test.YtbifmcadllilhaaGreatPmW
import Derived.Test.YtbifmcadllilhaaGreatPtW
import Derived.Test.YtbifmcadllilhaaGreatPpE
namespace Go.Proofs.YtbifmcadllilhaaGreat.Rg
open Go.RowKit Go.Shelf Go.Sort
set_option linter.unusedVariables false
/-- the planner while its queues fill -/
structure Pq (w4 : World) (pb : Nat) (pv : Value) (w : World) (lg lt : List Wt) (gv tv : Value) : Prop where
  blk : w.heap[pb]? = some (.cells #[pv, gv, tv] 77 (0, 0))
  rg : Wr w w4.heap.size gv lg
  rt : Wr w w4.heap.size tv lt
  ne : ∀ g, gv.ownBlock = some g → tv.ownBlock ≠ some g
  kp : Kp (fun g => g = pb) w4 w
theorem Pq.other {w4 w w' : World} {pb off : Nat} {cs : Array Value} {v v' u : Value} {l : List Wt} (hr : Wr w w4.heap.size u l) (hb : w.heap[pb]? = some (.cells cs 77 (0, 0))) (hf : Qf w w' pb off cs v v') (hne : ∀ g, v.ownBlock = some g → u.ownBlock ≠ some g) : Wr w' w4.heap.size u l ∧ ∀ g, v'.ownBlock = some g → u.ownBlock ≠ some g := by
  refine ⟨own_keep hr (fun g e => hf.kp.block g (own_lt hr e) (fun e2 => ?_)), fun g eg eu => ?_⟩
  · rcases e2 with e2 | e2
    · obtain ⟨c, hc⟩ := own_obj hr e
      rw [e2, hb] at hc; cases hc
    · exact hne g e2.symm e
  · have l1 := own_lt hr eu
    rcases hf.lie with q | ⟨g', hg', q⟩
    · rw [eg] at q; exact hne g q.symm eu
    · rw [eg] at q; cases q; omega
theorem Pq.kp' {w4 w w' : World} {pb off : Nat} {cs : Array Value} {v v' : Value} {l : List Wt} (hk : Kp (fun g => g = pb) w4 w) (hr : Wr w w4.heap.size v l) (hf : Qf w w' pb off cs v v') : Kp (fun g => g = pb) w4 w' :=
  hk.trans hf.kp (fun g hg e => by
    rcases e with e | e
    · exact e
    · have := (hr.lt g e.symm).1
      omega)
theorem Pq.give {w4 w w' : World} {pb : Nat} {pv gv tv gv' : Value} {lg lt lg' : List Wt} (h : Pq w4 pb pv w lg lt gv tv) (hq : Qb w' pb 1 w4.heap.size (#[pv, gv, tv].setIfInBounds 1 gv') gv' lg') (hf : Qf w w' pb 1 #[pv, gv, tv] gv gv') : Pq w4 pb pv w' lg' lt gv' tv := by
  obtain ⟨h1, h2⟩ := Pq.other h.rt h.blk hf h.ne
  exact ⟨hq.blk, hq.row, h1, h2, Pq.kp' h.kp h.rg hf⟩
theorem Pq.take {w4 w w' : World} {pb : Nat} {pv gv tv tv' : Value} {lg lt lt' : List Wt} (h : Pq w4 pb pv w lg lt gv tv) (hq : Qb w' pb 2 w4.heap.size (#[pv, gv, tv].setIfInBounds 2 tv') tv' lt') (hf : Qf w w' pb 2 #[pv, gv, tv] tv tv') : Pq w4 pb pv w' lg lt' gv tv' := by
  obtain ⟨h1, h2⟩ := Pq.other h.rg h.blk hf (fun g e e2 => h.ne g e2 e)
  exact ⟨hq.blk, h1, hq.row, fun g e e2 => h2 g e2 e, Pq.kp' h.kp h.rt hf⟩
theorem Pq.nu {w4 w w' : World} {pb : Nat} {pv gv tv : Value} {lg lt : List Wt} (h : Pq w4 pb pv w lg lt gv tv) (k : Kp Nu w w') : Pq w4 pb pv w' lg lt gv tv :=
  ⟨box2 h.blk k, h.rg.nu k, h.rt.nu k, h.ne, h.kp.trans k (fun _ _ e => e.elim)⟩
theorem hok_nil : Hok [] ([] : List Wt).length := fun c h1 h2 => by simp at h2
theorem wq_nil (v : List Int) : Wq [] (v.take 0) := ⟨fun X => by simp, by simp⟩
theorem Pls.keep4 {w w' : World} {B pb : Nat} {pv : Value} {vs : List Value} {ls : List (List St)} (h : Pls w B pv vs ls) {cs : Array Value} (hb : w.heap[pb]? = some (.cells cs 77 (0, 0))) (k : Kp (fun g => g = pb) w w') : Pls w' B pv vs ls :=
  h.keep (fun g c ty hg hty => k.block g (blk_lt hg) (fun e => by
    have e2 : g = pb := e
    rw [e2, hb] at hg
    cases hg
    rcases hty with h | h <;> cases h))
set_option maxRecDepth 100000 in
set_option maxHeartbeats 2000000 in
theorem plannerOf49 (w : World) (B n : Nat) (v : Value) (l : List St) (c : Nat → Int) (ho : w.ownsRow B 99 4 v l.length (cellsT l)) (n1 : 1 ≤ n) (h1 : n ≤ 16) (hh : ∀ s ∈ l, 0 ≤ s.sg.h ∧ s.sg.h < (n : Int)) (hl : l.length ≤ 8192) (hb : ∀ s ∈ l, s.n ≤ 17592186044416) (hsl : ∀ q, q < n → sl l q = c q) (hc : ∀ q, 0 ≤ c q ∧ c q ≤ 100000) :
    Calls Tryz.prog 27 #[.int .i64 (n : Int), v] w fun e w' => ∃ pb, e = .returned (.pointer (some ⟨pb, 0, none⟩)) ∧ ∃ lg lt, (∃ pv gv tv vs, Pla w' w.heap.size pb ((List.range n).map (hst l)) lg lt pv gv tv vs) ∧ Wq lg ((List.range n).map (fun h => c h - Pn.tgt ((List.range n).map c) h)) ∧ Wq lt ((List.range n).map (fun h => Pn.tgt ((List.range n).map c) h - c h)) ∧ Hok lg lg.length ∧ Hok lt lt.length ∧ lg.length ≤ n ∧ lt.length ≤ n ∧ w.heap.size ≤ pb ∧ Kp Nu w w' := by
  have mixed : Tryz.prog.follows .mixedOrders = true := by kernel_rfl
  have PI := piles74 w B n v l ho h1 hh hl
  obtain ⟨va, vc, rfl⟩ := own_slice ho
  obtain ⟨LN, eLN⟩ : ∃ N, l.length = N := ⟨_, rfl⟩
  have HU := hide (And.intro ho (And.intro hh (And.intro hl (And.intro hb (And.intro hsl hc)))))
  rw [eLN] at PI ⊢
  have HLN := hide eLN
  obtain ⟨o, eo⟩ : ∃ o, (List.range n).map c = o := ⟨_, rfl⟩
  have hol : o.length = n := by rw [← eo]; simp
  have hob : ∀ x ∈ o, 0 ≤ x ∧ x ≤ 100000 := fun x hx => by
    rw [← eo] at hx
    obtain ⟨q, _, rfl⟩ := List.mem_map.1 hx
    exact hc q
  have hmb : Pn.MBL o := ⟨by omega, by omega, fun x hx => by have := hob x hx; omega⟩
  have hsm := sum_up (b := 100000) (by omega) hob
  have hoc : ∀ q, q < n → o[q]? = some (c q) := fun q hq => by rw [← eo, List.getElem?_map, List.getElem?_range hq]; rfl
  have eics : (List.range n).map (fun q => Value.int .i64 (sl l q)) = Pn.ics o := by
    unfold Pn.ics
    rw [← eo, List.map_map]
    exact List.map_congr_left (fun q hq => by rw [hsl q (List.mem_range.1 hq)]; rfl)
  rw [eo]
  have HO := hide (And.intro hol (And.intro hob (And.intro hmb (And.intro hsm (And.intro hoc (And.intro eics eo))))))
  have hnI : (n : Int) ≤ 16 := by omega
  clear ho hh hl hb hsl hc eLN hol hob hmb hsm hoc eics eo
  go_enter Tryz.func27, Tryz.ntmps27
  go_wp2_with fail
  refine PI.mono ?_; rintro e w1 ⟨pv, vs, rfl, hP1, hk1⟩
  obtain ⟨ra, rc, epv⟩ := own_slice hP1.row
  obtain ⟨VN, eVN⟩ : ∃ VN, vs.length = VN := ⟨_, rfl⟩
  rw [eVN] at epv
  subst epv
  obtain ⟨w2, hw2⟩ : ∃ w2, w1.alloc (.cells #[.slice ra VN rc, .slice none 0 0, .slice none 0 0] 77) = w2 := ⟨_, rfl⟩
  have k2 : Kp Nu w1 w2 := by rw [← hw2]; exact Kp.alloc _ _ _
  have b2 : w2.heap[w1.heap.size]? = some (.cells #[.slice ra VN rc, .slice none 0 0, .slice none 0 0] 77 (0, 0)) := by rw [← hw2]; exact heap_alloc_new w1 _
  have LO := loadsOf43 w2 B n (.slice va l.length vc) l (own_keep HU.out.1 (fun g e => (hk1.andNu k2).block g (own_lt HU.out.1 e) (fun h => h))) h1 HU.out.2.1 HU.out.2.2.1 HU.out.2.2.2.1
  rw [HLN.out] at LO
  have HP := hide (And.intro hP1 (And.intro hk1 (And.intro k2 b2)))
  clear PI hP1 hk1 k2 b2 eVN
  go_wp2_with fail
  refine LO.mono ?_; rintro e w3 ⟨lb, rfl, ho3, hk3⟩
  rw [HO.out.2.2.2.2.2.1] at ho3
  have hlb := own_lt ho3 (g := lb) rfl
  have hlb2 := (ho3.lt lb rfl).1
  have hw12 := blk_lt HP.out.2.2.2
  have TG := Pn.targetsOf31 w3 ⟨lb, 0, none⟩ n o n (ns_of ho3 HO.out.1) HO.out.1 HO.out.2.2.1 hlb
  have H3 := hide (And.intro ho3 hk3)
  clear LO ho3 hk3
  go_wp2_with fail
  refine TG.mono ?_; rintro e w4 ⟨tb, rfl, ho4, hk4⟩
  have hk4' := Kp.ofPn hk4
  have htb := own_lt ho4 (g := tb) rfl
  have htb2 := (ho4.lt tb rfl).1
  have k24 := H3.out.2.andNu hk4'
  have b4 := box2 HP.out.2.2.2 k24
  have ho34 := own_keep H3.out.1 (fun g e => hk4'.block g (own_lt H3.out.1 e) (fun h => h))
  have s23 := H3.out.2.size
  have P0 : Pq w4 w1.heap.size (.slice ra VN rc) w4 [] [] (.slice none 0 0) (.slice none 0 0) := ⟨b4, World.ownsRow_nil _ _ _ _, World.ownsRow_nil _ _ _ _, (fun g e => by cases e), Kp.refl _ _⟩
  have H4 := hide (And.intro P0 (And.intro ho34 (And.intro ho4 (And.intro k24 b4))))
  clear TG ho4 hk4 hk4' k24 b4 ho34 P0
  go_wp2
  go_loopw [21] (fun iv wr => ∃ i : Nat, iv = .int .i64 (i : Int) ∧ i ≤ n ∧ Hid (∃ lg lt gv tv, Pq w4 w1.heap.size (.slice ra VN rc) wr lg lt gv tv ∧ Wq lg (((List.range n).map (fun h => c h - Pn.tgt o h)).take i) ∧ Wq lt (((List.range n).map (fun h => Pn.tgt o h - c h)).take i) ∧ Hok lg lg.length ∧ Hok lt lt.length ∧ lg.length ≤ i ∧ lt.length ≤ i)) (fun iv _ => n - (intOf iv).toNat)
  case atStart => exact ⟨0, rfl, Nat.zero_le _, hide ⟨[], [], _, _, H4.out.1, wq_nil _, wq_nil _, hok_nil, hok_nil, Nat.le_refl _, Nat.le_refl _⟩⟩
  case round =>
    obtain ⟨i, rfl, hi, hI⟩ := hrel
    have hi0 : (0 : Int) ≤ (i : Int) := by omega
    obtain ⟨lg, lt, gv, tv, hq, hwg, hwt, hog, hot, hlg, hlt⟩ := hI.out
    by_cases hlt' : i < n
    · have hltI : (i : Int) < (n : Int) := by omega
      have eti : (i : Int).toNat = i := by omega
      have e8 : IntKind.u8.wrap (i : Int) = (i : Int) := by rw [IntKind.wrap_u8]; omega
      obtain ⟨hol, hob, hmb, hsm, hoc, eics, eo⟩ := HO.out
      have ea := hoc i hlt'
      have eb : (Pn.tgs o n)[i]? = some (Pn.tgt o i) := by unfold Pn.tgs; rw [List.getElem?_map, List.getElem?_range hlt']; rfl
      have xg : ((List.range n).map (fun h => c h - Pn.tgt o h))[i]? = some (c i - Pn.tgt o i) := by rw [List.getElem?_map, List.getElem?_range hlt']; rfl
      have xt : ((List.range n).map (fun h => Pn.tgt o h - c h))[i]? = some (Pn.tgt o i - c i) := by rw [List.getElem?_map, List.getElem?_range hlt']; rfl
      have hb0 := tgt_nonneg hsm.1 i
      have hb1 := tgt_up hsm.1 i
      have ha := hob _ (List.mem_of_getElem? ea)
      rw [hol] at hsm
      have hlr := own_keep H4.out.2.1 (w' := wr) (fun g e => hq.kp.block g (own_lt H4.out.2.1 e) (fun e2 => by have e4 : g = w1.heap.size := e2; have e3 : some lb = some g := e; cases e3; omega))
      have htr := own_keep H4.out.2.2.1 (w' := wr) (fun g e => hq.kp.block g (own_lt H4.out.2.2.1 e) (fun e2 => by have e4 : g = w1.heap.size := e2; have e3 : some tb = some g := e; cases e3; omega))
      have y1 := (num_at hlr hol ea).1
      have y2 := (num_at htr (Pn.tgs_len _ _) eb).1
      obtain ⟨a, eqa⟩ : ∃ a, c i = a := ⟨_, rfl⟩
      obtain ⟨b, eqb⟩ : ∃ b, Pn.tgt o i = b := ⟨_, rfl⟩
      rw [eqa, eqb] at xg xt
      rw [eqa] at y1 ha
      rw [eqb] at y2 hb0 hb1
      have hbb : b ≤ 1600001 := by omega
      have w1x : IntKind.i64.wrap (a - b) = a - b := by rw [IntKind.wrap_i64]; omega
      obtain ⟨X, eX⟩ : ∃ X, a - b = X := ⟨_, rfl⟩
      have eX2 : b - a = -X := by omega
      have hX1 : -1600001 ≤ X := by omega
      have hX2 : X ≤ 100000 := by omega
      have w2x : IntKind.i64.wrap (-X) = -X := by rw [IntKind.wrap_i64]; omega
      rw [eX] at w1x xg
      rw [eX2] at xt
      have p1 := hpush75 wr w1.heap.size 1 w4.heap.size #[.slice ra VN rc, gv, tv] gv lg ⟨(i : Int), X⟩ ⟨hq.blk, rfl, hq.rg⟩ (by omega) hq.kp.size hog
      have p2 := hpush75 wr w1.heap.size 2 w4.heap.size #[.slice ra VN rc, gv, tv] tv lt ⟨(i : Int), -X⟩ ⟨hq.blk, rfl, hq.rt⟩ (by omega) hq.kp.size hot
      have HJ := hide (And.intro hq (And.intro hwg (And.intro hwt (And.intro hog (And.intro hot (And.intro hlg (And.intro hlt (And.intro xg xt))))))))
      clear hq hwg hwt hog hot hlg hlt hol hob hmb hsm hoc eics eo ea eb xg xt hb1 hlr htr eqa eqb eX2
      rcases Int.lt_trichotomy X 0 with hX | hX | hX
      · have dx : decide (X > 0) = false := by simp; omega
        have dy : decide (X < 0) = true := by simpa using hX
        go_wp2_with fail
        refine p2.mono ?_; rintro e w5 ⟨rfl, tv', lt', hq5, hp5, hk5, hf5⟩
        have HE := hide (And.intro hq5 (And.intro hp5 (And.intro hk5 hf5)))
        clear p1 p2 hq5 hp5 hk5 hf5
        go_wp2
        obtain ⟨hq5, hp5, hk5, hf5⟩ := HE.out
        obtain ⟨hq, hwg, hwt, hog, hot, hlg, hlt, xg, xt⟩ := HJ.out
        refine ⟨⟨i + 1, by go_num, by omega, hide ⟨lg, lt', gv, tv', hq.take hq5 hf5, hwg.skip xg (by omega), hwt.push xt (by omega) hp5, hog, hk5, by omega, ?_⟩⟩, by simp [intOf]; omega⟩
        have := hp5.length_eq
        rw [List.length_append, List.length_singleton] at this
        omega
      · subst hX
        clear p1 p2
        go_wp2
        obtain ⟨hq, hwg, hwt, hog, hot, hlg, hlt, xg, xt⟩ := HJ.out
        exact ⟨⟨i + 1, by go_num, by omega, hide ⟨lg, lt, gv, tv, hq, hwg.skip xg (by omega), hwt.skip xt (by omega), hog, hot, by omega, by omega⟩⟩, by simp [intOf]; omega⟩
      · have dx : decide (X > 0) = true := by simpa using hX
        go_wp2_with fail
        refine p1.mono ?_; rintro e w5 ⟨rfl, gv', lg', hq5, hp5, hk5, hf5⟩
        have HE := hide (And.intro hq5 (And.intro hp5 (And.intro hk5 hf5)))
        clear p1 p2 hq5 hp5 hk5 hf5
        go_wp2
        obtain ⟨hq5, hp5, hk5, hf5⟩ := HE.out
        obtain ⟨hq, hwg, hwt, hog, hot, hlg, hlt, xg, xt⟩ := HJ.out
        refine ⟨⟨i + 1, by go_num, by omega, hide ⟨lg', lt, gv', tv, hq.give hq5 hf5, hwg.push xg (by omega) hp5, hwt.skip xt (by omega), hk5, hot, ?_, by omega⟩⟩, by simp [intOf]; omega⟩
        have := hp5.length_eq
        rw [List.length_append, List.length_singleton] at this
        omega
    · have hge : ¬ (i : Int) < (n : Int) := by omega
      obtain rfl : n = i := by omega
      clear hq hwg hwt hog hot hlg hlt
      go_wp2
      go_ret
      obtain ⟨lg, lt, gv, tv, hq, hwg, hwt, hog, hot, hlg, hlt⟩ := hI.out
      obtain ⟨hP1, hk1, k2, b2⟩ := HP.out
      obtain ⟨_, _, _, k24, b4⟩ := H4.out
      rw [List.take_of_length_le (by simp)] at hwg hwt
      have hs1 := hk1.size
      have hk4 := (hk1.andNu k2).andNu k24
      exact ⟨w1.heap.size, rfl, lg, lt, ⟨_, gv, tv, vs, hq.blk, (hP1.nu (k2.andNu k24)).keep4 b4 hq.kp, own_base hq.rg hk4.size, own_base hq.rt hk4.size, hq.ne⟩, hwg, hwt, hog, hot, hlg, hlt, hs1, hk4.trans hq.kp (fun g hg e => by
        have e2 : g = w1.heap.size := e
        omega)⟩
end Go.Proofs.YtbifmcadllilhaaGreat.Rg
