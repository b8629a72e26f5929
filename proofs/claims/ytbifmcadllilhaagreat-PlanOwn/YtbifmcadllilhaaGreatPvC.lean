import Derived.Test.YtbifmcadllilhaaGreatPvA
import Derived.Test.YtbifmcadllilhaaGreatPvF
import Derived.Test.YtbifmcadllilhaaGreatPmW
import Derived.Test.YtbifmcadllilhaaGreatPdE
import Derived.Test.YtbifmcadllilhaaGreatPmK
import Derived.Test.YtbifmcadllilhaaGreatPvM
namespace Go.Proofs.YtbifmcadllilhaaGreat.Rg
open Go.RowKit Go.Shelf Go.Sort
set_option linter.unusedVariables false
/-- the planner while its queues fill -/
structure Pq (w4 : World) (pb : Nat) (pv : Value) (w : World) (lg lt : List Wt) (gv tv : Value) : Prop where
  blk : w.heap[pb]? = some (.cells #[pv, gv, tv] 77 (0, 0))
  rg : Wr w w4.heap.size gv lg
  rt : Wr w w4.heap.size tv lt
  ne : ∀ g, gv.ownBlock = some g → tv.ownBlock ≠ some g
  kp : Kp (fun g => g = pb) w4 w
theorem Pq.other {w4 w w' : World} {pb off : Nat} {cs : Array Value} {v v' u : Value} {l : List Wt} (hr : Wr w w4.heap.size u l) (hb : w.heap[pb]? = some (.cells cs 77 (0, 0))) (hf : Qf w w' pb off cs v v') (hne : ∀ g, v.ownBlock = some g → u.ownBlock ≠ some g) : Wr w' w4.heap.size u l ∧ ∀ g, v'.ownBlock = some g → u.ownBlock ≠ some g := by
  refine ⟨own_keep hr (fun g e => hf.kp.block g (own_lt hr e) (fun e2 => ?_)), fun g eg eu => ?_⟩
  · rcases e2 with e2 | e2
    · obtain ⟨c, hc⟩ := own_obj hr e
      rw [e2, hb] at hc; cases hc
    · exact hne g e2.symm e
  · have l1 := own_lt hr eu
    rcases hf.lie with q | ⟨g', hg', q⟩
    · rw [eg] at q; exact hne g q.symm eu
    · rw [eg] at q; cases q; omega
theorem Pq.kp' {w4 w w' : World} {pb off : Nat} {cs : Array Value} {v v' : Value} {l : List Wt} (hk : Kp (fun g => g = pb) w4 w) (hr : Wr w w4.heap.size v l) (hf : Qf w w' pb off cs v v') : Kp (fun g => g = pb) w4 w' :=
  hk.trans hf.kp (fun g hg e => by
    rcases e with e | e
    · exact e
    · have := (hr.lt g e.symm).1
      omega)
theorem Pq.give {w4 w w' : World} {pb : Nat} {pv gv tv gv' : Value} {lg lt lg' : List Wt} (h : Pq w4 pb pv w lg lt gv tv) (hq : Qb w' pb 1 w4.heap.size (#[pv, gv, tv].setIfInBounds 1 gv') gv' lg') (hf : Qf w w' pb 1 #[pv, gv, tv] gv gv') : Pq w4 pb pv w' lg' lt gv' tv := by
  obtain ⟨h1, h2⟩ := Pq.other h.rt h.blk hf h.ne
  exact ⟨hq.blk, hq.row, h1, h2, Pq.kp' h.kp h.rg hf⟩
theorem Pq.take {w4 w w' : World} {pb : Nat} {pv gv tv tv' : Value} {lg lt lt' : List Wt} (h : Pq w4 pb pv w lg lt gv tv) (hq : Qb w' pb 2 w4.heap.size (#[pv, gv, tv].setIfInBounds 2 tv') tv' lt') (hf : Qf w w' pb 2 #[pv, gv, tv] tv tv') : Pq w4 pb pv w' lg lt' gv tv' := by
  obtain ⟨h1, h2⟩ := Pq.other h.rg h.blk hf (fun g e e2 => h.ne g e2 e)
  exact ⟨hq.blk, h1, hq.row, fun g e e2 => h2 g e2 e, Pq.kp' h.kp h.rt hf⟩
theorem Pq.nu {w4 w w' : World} {pb : Nat} {pv gv tv : Value} {lg lt : List Wt} (h : Pq w4 pb pv w lg lt gv tv) (k : Kp Nu w w') : Pq w4 pb pv w' lg lt gv tv :=
  ⟨box2 h.blk k, h.rg.nu k, h.rt.nu k, h.ne, h.kp.trans k (fun _ _ e => e.elim)⟩
theorem hok_nil : Hok [] ([] : List Wt).length := fun c h1 h2 => by simp at h2
theorem wq_nil (v : List Int) : Wq [] (v.take 0) := ⟨fun X => by simp, by simp⟩
theorem Pls.keep4 {w w' : World} {B pb : Nat} {pv : Value} {vs : List Value} {ls : List (List St)} (h : Pls w B pv vs ls) {cs : Array Value} (hb : w.heap[pb]? = some (.cells cs 77 (0, 0))) (k : Kp (fun g => g = pb) w w') : Pls w' B pv vs ls :=
  h.keep (fun g c ty hg hty => k.block g (blk_lt hg) (fun e => by
    have e2 : g = pb := e
    rw [e2, hb] at hg
    cases hg
    rcases hty with h | h <;> cases h))
set_option maxRecDepth 100000 in
set_option maxHeartbeats 2000000 in
theorem plannerOf49 (w : World) (B n : Nat) (v : Value) (l : List St) (c : Nat → Int) (ho : w.ownsRow B 99 4 v l.length (cellsT l)) (n1 : 1 ≤ n) (h1 : n ≤ 16) (hh : ∀ s ∈ l, 0 ≤ s.sg.h ∧ s.sg.h < (n : Int)) (hl : l.length ≤ 8192) (hb : ∀ s ∈ l, s.n ≤ 17592186044416) (hsl : ∀ q, q < n → sl l q = c q) (hc : ∀ q, 0 ≤ c q ∧ c q ≤ 100000) :
    Calls Tryz.prog 27 #[.int .i64 (n : Int), v] w fun e w' => ∃ pb, e = .returned (.pointer (some ⟨pb, 0, none⟩)) ∧ ∃ lg lt, (∃ pv gv tv vs, Pla w' w.heap.size pb ((List.range n).map (hst l)) lg lt pv gv tv vs) ∧ Wq lg ((List.range n).map (fun h => c h - Pn.tgt ((List.range n).map c) h)) ∧ Wq lt ((List.range n).map (fun h => Pn.tgt ((List.range n).map c) h - c h)) ∧ Hok lg lg.length ∧ Hok lt lt.length ∧ lg.length ≤ n ∧ lt.length ≤ n ∧ w.heap.size ≤ pb ∧ Kp Nu w w' := by
  have mixed : Tryz.prog.follows .mixedOrders = true := by kernel_rfl
  have PI := piles74 w B n v l ho h1 hh hl
  obtain ⟨va, vc, rfl⟩ := own_slice ho
  obtain ⟨LN, eLN⟩ : ∃ N, l.length = N := ⟨_, rfl⟩
  have HU := hide (And.intro ho (And.intro hh (And.intro hl (And.intro hb (And.intro hsl hc)))))
  rw [eLN] at PI ⊢
  have HLN := hide eLN
  obtain ⟨o, eo⟩ : ∃ o, (List.range n).map c = o := ⟨_, rfl⟩
  have hol : o.length = n := by rw [← eo]; simp
  have hob : ∀ x ∈ o, 0 ≤ x ∧ x ≤ 100000 := fun x hx => by
    rw [← eo] at hx
    obtain ⟨q, _, rfl⟩ := List.mem_map.1 hx
    exact hc q
  have hmb : Pn.MBL o := ⟨by omega, by omega, fun x hx => by have := hob x hx; omega⟩
  have hsm := sum_up (b := 100000) (by omega) hob
  have hoc : ∀ q, q < n → o[q]? = some (c q) := fun q hq => by rw [← eo, List.getElem?_map, List.getElem?_range hq]; rfl
  have eics : (List.range n).map (fun q => Value.int .i64 (sl l q)) = Pn.ics o := by
    unfold Pn.ics
    rw [← eo, List.map_map]
    exact List.map_congr_left (fun q hq => by rw [hsl q (List.mem_range.1 hq)]; rfl)
  rw [eo]
  have HO := hide (And.intro hol (And.intro hob (And.intro hmb (And.intro hsm (And.intro hoc (And.intro eics eo))))))
  have hnI : (n : Int) ≤ 16 := by omega
  clear ho hh hl hb hsl hc eLN hol hob hmb hsm hoc eics eo
  go_enter Tryz.func27, Tryz.ntmps27
  go_wp2_with fail
  refine PI.mono ?_; rintro e w1 ⟨pv, vs, rfl, hP1, hk1⟩
  obtain ⟨ra, rc, epv⟩ := own_slice hP1.row
  obtain ⟨VN, eVN⟩ : ∃ VN, vs.length = VN := ⟨_, rfl⟩
  rw [eVN] at epv
  subst epv
  obtain ⟨w2, hw2⟩ : ∃ w2, w1.alloc (.cells #[.slice ra VN rc, .slice none 0 0, .slice none 0 0] 77) = w2 := ⟨_, rfl⟩
  have k2 : Kp Nu w1 w2 := by rw [← hw2]; exact Kp.alloc _ _ _
  have b2 : w2.heap[w1.heap.size]? = some (.cells #[.slice ra VN rc, .slice none 0 0, .slice none 0 0] 77 (0, 0)) := by rw [← hw2]; exact heap_alloc_new w1 _
  have LO := loadsOf43 w2 B n (.slice va l.length vc) l (own_keep HU.out.1 (fun g e => (hk1.andNu k2).block g (own_lt HU.out.1 e) (fun h => h))) h1 HU.out.2.1 HU.out.2.2.1 HU.out.2.2.2.1
  rw [HLN.out] at LO
  have HP := hide (And.intro hP1 (And.intro hk1 (And.intro k2 b2)))
  clear PI hP1 hk1 k2 b2 eVN
  go_wp2_with fail
  refine LO.mono ?_; rintro e w3 ⟨lb, rfl, ho3, hk3⟩
  rw [HO.out.2.2.2.2.2.1] at ho3
  have hlb := own_lt ho3 (g := lb) rfl
  have hlb2 := (ho3.lt lb rfl).1
  have hw12 := blk_lt HP.out.2.2.2
  have TG := Pn.targetsOf31 w3 ⟨lb, 0, none⟩ n o n (ns_of ho3 HO.out.1) HO.out.1 HO.out.2.2.1 hlb
  have H3 := hide (And.intro ho3 hk3)
  clear LO ho3 hk3
  go_wp2_with fail
  refine TG.mono ?_; rintro e w4 ⟨tb, rfl, ho4, hk4⟩
  have hk4' := Kp.ofPn hk4
  have htb := own_lt ho4 (g := tb) rfl
  have htb2 := (ho4.lt tb rfl).1
  have k24 := H3.out.2.andNu hk4'
  have b4 := box2 HP.out.2.2.2 k24
  have ho34 := own_keep H3.out.1 (fun g e => hk4'.block g (own_lt H3.out.1 e) (fun h => h))
  have s23 := H3.out.2.size
  have P0 : Pq w4 w1.heap.size (.slice ra VN rc) w4 [] [] (.slice none 0 0) (.slice none 0 0) := ⟨b4, World.ownsRow_nil _ _ _ _, World.ownsRow_nil _ _ _ _, (fun g e => by cases e), Kp.refl _ _⟩
  have H4 := hide (And.intro P0 (And.intro ho34 (And.intro ho4 (And.intro k24 b4))))
  clear TG ho4 hk4 hk4' k24 b4 ho34 P0
  go_wp2
  go_loopw [21] (fun iv wr => ∃ i : Nat, iv = .int .i64 (i : Int) ∧ i ≤ n ∧ Hid (∃ lg lt gv tv, Pq w4 w1.heap.size (.slice ra VN rc) wr lg lt gv tv ∧ Wq lg (((List.range n).map (fun h => c h - Pn.tgt o h)).take i) ∧ Wq lt (((List.range n).map (fun h => Pn.tgt o h - c h)).take i) ∧ Hok lg lg.length ∧ Hok lt lt.length ∧ lg.length ≤ i ∧ lt.length ≤ i)) (fun iv _ => n - (intOf iv).toNat)
  case atStart => exact ⟨0, rfl, Nat.zero_le _, hide ⟨[], [], _, _, H4.out.1, wq_nil _, wq_nil _, hok_nil, hok_nil, Nat.le_refl _, Nat.le_refl _⟩⟩
  case round =>
    obtain ⟨i, rfl, hi, hI⟩ := hrel
    have hi0 : (0 : Int) ≤ (i : Int) := by omega
    obtain ⟨lg, lt, gv, tv, hq, hwg, hwt, hog, hot, hlg, hlt⟩ := hI.out
    by_cases hlt' : i < n
    · have hltI : (i : Int) < (n : Int) := by omega
      have eti : (i : Int).toNat = i := by omega
      have e8 : IntKind.u8.wrap (i : Int) = (i : Int) := by rw [IntKind.wrap_u8]; omega
      obtain ⟨hol, hob, hmb, hsm, hoc, eics, eo⟩ := HO.out
      have ea := hoc i hlt'
      have eb : (Pn.tgs o n)[i]? = some (Pn.tgt o i) := by unfold Pn.tgs; rw [List.getElem?_map, List.getElem?_range hlt']; rfl
      have xg : ((List.range n).map (fun h => c h - Pn.tgt o h))[i]? = some (c i - Pn.tgt o i) := by rw [List.getElem?_map, List.getElem?_range hlt']; rfl
      have xt : ((List.range n).map (fun h => Pn.tgt o h - c h))[i]? = some (Pn.tgt o i - c i) := by rw [List.getElem?_map, List.getElem?_range hlt']; rfl
      have hb0 := tgt_nonneg hsm.1 i
      have hb1 := tgt_up hsm.1 i
      have ha := hob _ (List.mem_of_getElem? ea)
      rw [hol] at hsm
      have hlr := own_keep H4.out.2.1 (w' := wr) (fun g e => hq.kp.block g (own_lt H4.out.2.1 e) (fun e2 => by have e4 : g = w1.heap.size := e2; have e3 : some lb = some g := e; cases e3; omega))
      have htr := own_keep H4.out.2.2.1 (w' := wr) (fun g e => hq.kp.block g (own_lt H4.out.2.2.1 e) (fun e2 => by have e4 : g = w1.heap.size := e2; have e3 : some tb = some g := e; cases e3; omega))
      have y1 := (num_at hlr hol ea).1
      have y2 := (num_at htr (Pn.tgs_len _ _) eb).1
      obtain ⟨a, eqa⟩ : ∃ a, c i = a := ⟨_, rfl⟩
      obtain ⟨b, eqb⟩ : ∃ b, Pn.tgt o i = b := ⟨_, rfl⟩
      rw [eqa, eqb] at xg xt
      rw [eqa] at y1 ha
      rw [eqb] at y2 hb0 hb1
      have hbb : b ≤ 1600001 := by omega
      have w1x : IntKind.i64.wrap (a - b) = a - b := by rw [IntKind.wrap_i64]; omega
      obtain ⟨X, eX⟩ : ∃ X, a - b = X := ⟨_, rfl⟩
      have eX2 : b - a = -X := by omega
      have hX1 : -1600001 ≤ X := by omega
      have hX2 : X ≤ 100000 := by omega
      have w2x : IntKind.i64.wrap (-X) = -X := by rw [IntKind.wrap_i64]; omega
      rw [eX] at w1x xg
      rw [eX2] at xt
      have p1 := hpush75 wr w1.heap.size 1 w4.heap.size #[.slice ra VN rc, gv, tv] gv lg ⟨(i : Int), X⟩ ⟨hq.blk, rfl, hq.rg⟩ (by omega) hq.kp.size hog
      have p2 := hpush75 wr w1.heap.size 2 w4.heap.size #[.slice ra VN rc, gv, tv] tv lt ⟨(i : Int), -X⟩ ⟨hq.blk, rfl, hq.rt⟩ (by omega) hq.kp.size hot
      have HJ := hide (And.intro hq (And.intro hwg (And.intro hwt (And.intro hog (And.intro hot (And.intro hlg (And.intro hlt (And.intro xg xt))))))))
      clear hq hwg hwt hog hot hlg hlt hol hob hmb hsm hoc eics eo ea eb xg xt hb1 hlr htr eqa eqb eX2
      rcases Int.lt_trichotomy X 0 with hX | hX | hX
      · have dx : decide (X > 0) = false := by simp; omega
        have dy : decide (X < 0) = true := by simpa using hX
        go_wp2_with fail
        refine p2.mono ?_; rintro e w5 ⟨rfl, tv', lt', hq5, hp5, hk5, hf5⟩
        have HE := hide (And.intro hq5 (And.intro hp5 (And.intro hk5 hf5)))
        clear p1 p2 hq5 hp5 hk5 hf5
        go_wp2
        obtain ⟨hq5, hp5, hk5, hf5⟩ := HE.out
        obtain ⟨hq, hwg, hwt, hog, hot, hlg, hlt, xg, xt⟩ := HJ.out
        refine ⟨⟨i + 1, by go_num, by omega, hide ⟨lg, lt', gv, tv', hq.take hq5 hf5, hwg.skip xg (by omega), hwt.push xt (by omega) hp5, hog, hk5, by omega, ?_⟩⟩, by simp [intOf]; omega⟩
        have := hp5.length_eq
        rw [List.length_append, List.length_singleton] at this
        omega
      · subst hX
        clear p1 p2
        go_wp2
        obtain ⟨hq, hwg, hwt, hog, hot, hlg, hlt, xg, xt⟩ := HJ.out
        exact ⟨⟨i + 1, by go_num, by omega, hide ⟨lg, lt, gv, tv, hq, hwg.skip xg (by omega), hwt.skip xt (by omega), hog, hot, by omega, by omega⟩⟩, by simp [intOf]; omega⟩
      · have dx : decide (X > 0) = true := by simpa using hX
        go_wp2_with fail
        refine p1.mono ?_; rintro e w5 ⟨rfl, gv', lg', hq5, hp5, hk5, hf5⟩
        have HE := hide (And.intro hq5 (And.intro hp5 (And.intro hk5 hf5)))
        clear p1 p2 hq5 hp5 hk5 hf5
        go_wp2
        obtain ⟨hq5, hp5, hk5, hf5⟩ := HE.out
        obtain ⟨hq, hwg, hwt, hog, hot, hlg, hlt, xg, xt⟩ := HJ.out
        refine ⟨⟨i + 1, by go_num, by omega, hide ⟨lg', lt, gv', tv, hq.give hq5 hf5, hwg.push xg (by omega) hp5, hwt.skip xt (by omega), hk5, hot, ?_, by omega⟩⟩, by simp [intOf]; omega⟩
        have := hp5.length_eq
        rw [List.length_append, List.length_singleton] at this
        omega
    · have hge : ¬ (i : Int) < (n : Int) := by omega
      obtain rfl : n = i := by omega
      clear hq hwg hwt hog hot hlg hlt
      go_wp2
      go_ret
      obtain ⟨lg, lt, gv, tv, hq, hwg, hwt, hog, hot, hlg, hlt⟩ := hI.out
      obtain ⟨hP1, hk1, k2, b2⟩ := HP.out
      obtain ⟨_, _, _, k24, b4⟩ := H4.out
      rw [List.take_of_length_le (by simp)] at hwg hwt
      have hs1 := hk1.size
      have hk4 := (hk1.andNu k2).andNu k24
      exact ⟨w1.heap.size, rfl, lg, lt, ⟨_, gv, tv, vs, hq.blk, (hP1.nu (k2.andNu k24)).keep4 b4 hq.kp, own_base hq.rg hk4.size, own_base hq.rt hk4.size, hq.ne⟩, hwg, hwt, hog, hot, hlg, hlt, hs1, hk4.trans hq.kp (fun g hg e => by
        have e2 : g = w1.heap.size := e
        omega)⟩
end Go.Proofs.YtbifmcadllilhaaGreat.Rg
namespace Go.Proofs.YtbifmcadllilhaaGreat.Rg
open Go.RowKit Go.Shelf Go.Sort
open Go.Proofs.YtbifmcadllilhaaGreat.It
set_option linter.unusedVariables false
def lenV : Value → Nat
  | .slice _ n _ => n
  | _ => 0
theorem sp4_other {w w' : World} {B pb : Nat} (k : Kp (Sp4 w B pb) w w') {g : Nat} {c : Array Value} {t : TypeId} (hg : w.heap[g]? = some (.cells c t (0, 0))) (hp : g ≠ pb) (h1 : t ≠ 68) (h2 : t ≠ 99) (h3 : t ≠ 105) : w'.heap[g]? = w.heap[g]? :=
  k.block g (blk_lt hg) (fun e => by
    rcases e with e | ⟨_, c', t', e1, e2⟩
    · exact hp e
    · rw [hg] at e1
      cases e1
      rcases e2 with e | e | e
      · exact h1 e
      · exact h2 e
      · exact h3 e)
theorem Sp4.low {w0 w : World} {B pb g : Nat} (h : Sp4 w B pb g) (h1 : w0.heap.size ≤ B) (h2 : B ≤ pb) : w0.heap.size ≤ g := by
  rcases h with h | h
  · omega
  · omega
theorem Pla.oth {w w' : World} {B pb : Nat} {ls : List (List St)} {lg lt : List Wt} {pv gv tv : Value} {vs : List Value} {S : Nat → Prop} (h : Pla w B pb ls lg lt pv gv tv vs) (k : Kp S w w') (hS : ∀ (g : Nat), S g → ∀ (c : Array Value) (t : TypeId), w.heap[g]? = some (.cells c t (0, 0)) → t = 41) : Pla w' B pb ls lg lt pv gv tv vs := by
  have row : ∀ {v : Value} {l : List Wt}, Wr w B v l → Wr w' B v l := fun {v l} hr => own_keep hr (fun g e => k.block g (own_lt hr e) (fun e2 => by
    obtain ⟨c, hc⟩ := own_obj hr e
    exact absurd (hS g e2 _ _ hc) (by decide)))
  refine ⟨(k.block pb (blk_lt h.blk) (fun e => absurd (hS pb e _ _ h.blk) (by decide))).trans h.blk, h.pls.keep (fun g c ty hg hty => k.block g (blk_lt hg) (fun e => ?_)), row h.rg, row h.rt, h.ne⟩
  have e59 := hS g e _ _ hg
  rw [e59] at hty
  rcases hty with h | h <;> exact absurd h (by decide)
set_option maxRecDepth 100000 in
set_option maxHeartbeats 2000000 in
theorem moves24 (w : World) (n most : Int) (u k : Value) (M : List Sg) (ks : List Int) (hM : Sgs w u M) (hlen : (M.length : Int) ≤ 5864062014634) (hk : Us w k ks) (hkl : ks.length ≤ 4096) (hkr : ∀ x ∈ ks, 0 ≤ x ∧ x < 18446744073709551616) (hnil : ∀ m c, k = .slice none m c → c = 0) :
    Calls Tryz.prog 8 #[.int .i64 n, u, k, .int .i64 most] w fun e w' => ∃ v c, e = .returned (.tuple #[v, .int .i64 c]) ∧ MoR w' n M ks most v c ∧ Kp Nu w w' := by
  have HO := Pn.hosts41 w n
  have LA := layOut42 w n u k M ks hM hlen hk (by omega) hnil
  obtain ⟨ad, cap, hu⟩ := hM.slice
  obtain ⟨a1, c1, rfl, _, _⟩ := id hk
  obtain ⟨KN, eN⟩ : ∃ N, ks.length = N := ⟨_, rfl⟩
  have HU := hide (And.intro hM (And.intro eN (And.intro hkl hkr)))
  rw [eN] at hkl LA ⊢
  generalize M.length = NM at hu
  subst hu
  clear hM hk eN hlen hkr hnil
  go_enter Tryz.func8, Tryz.ntmps8
  go_wp2_with fail
  refine HO.mono ?_; rintro e w1 ⟨⟨b1, rfl, hb1⟩, hw⟩
  obtain rfl := hw.symm
  have HB := hide hb1
  clear HO hb1
  cases b1 with
  | false =>
    go_wp2
    go_ret2
    exact ⟨_, _, rfl, .inl ⟨fun h => by simpa using HB.out.2 h.1, rfl, rfl⟩, Kp.refl _ _⟩
  | true =>
    have hn := HB.out.1 rfl
    have HN := hide hn
    clear hn HB
    by_cases q1 : most < 1
    · have d1 : decide (most < 1) = true := by simpa using q1
      have Q1 := hide q1
      clear q1 LA
      go_wp2
      go_ret2
      exact ⟨_, _, rfl, .inl ⟨fun h => by have := Q1.out; omega, rfl, rfl⟩, Kp.refl _ _⟩
    have d1 : decide (most < 1) = false := by simpa using q1
    by_cases q2 : most > 32
    · have d2 : decide (most > 32) = true := by simpa using q2
      have Q1 := hide q2
      clear q1 q2 LA
      go_wp2
      go_ret2
      exact ⟨_, _, rfl, .inl ⟨fun h => by have := Q1.out; omega, rfl, rfl⟩, Kp.refl _ _⟩
    have d2 : decide (most > 32) = false := by simpa using q2
    have HM : Hid (1 ≤ most ∧ most ≤ 32) := hide ⟨by omega, by omega⟩
    clear q1 q2
    go_wp2_with fail
    refine LA.mono ?_; rintro e w2 ⟨v, c, rfl, hP, hk2⟩
    rcases hP with ⟨h1, rfl, rfl⟩ | ⟨h1, rfl, l, h2, hD, h4⟩
    · have H := hide (And.intro h1 hk2)
      clear h1 hk2 LA
      go_wp2
      go_ret2
      exact ⟨_, _, rfl, .inr (.inl ⟨⟨HN.out, HM.out⟩, H.out.1, rfl, rfl⟩), H.out.2⟩
    · obtain ⟨n', hn'⟩ : ∃ n' : Nat, n = (n' : Int) := ⟨n.toNat, by have := HN.out; omega⟩
      subst hn'
      have tab := (lok_good h1.1.1 h1.1.2.1 HU.out.1.sgb).tab
      obtain ⟨L, eL⟩ : ∃ L, lays [] M = L := ⟨_, rfl⟩
      have hl8 : l.length ≤ 8192 := by
        have := congrArg List.length h2
        simp only [List.length_map] at this
        have := h1.1.2.2
        omega
      have PO := plannerOf49 w2 _ n' v l (Pn.cnt (ks.map (ow L))) h4 (by have := HN.out; omega) (by have := HN.out; omega) (fun s hs => by
          have hm : s.sg ∈ lays [] M := by rw [← h2]; exact List.mem_map.2 ⟨s, hs, rfl⟩
          exact ⟨(tab.hs _ hm).1, h1.2.1 _ hm⟩) hl8 (fun s hs => by
          have hm : s.n ∈ dl (lays [] M) ks := by rw [← hD.n]; exact List.mem_map.2 ⟨s, hs, rfl⟩
          have := dl_le _ _ _ hm
          have := HU.out.2.1
          omega) (fun q _ => by
          rw [← eL, ← sm_dl tab.cov h1.2.2 HU.out.2.2.2 q]
          unfold sl
          rw [h2, hD.n]) (fun q => by
          have := Pn.cnt_le (ks.map (ow L)) q
          rw [List.length_map, HU.out.2.1] at this
          omega)
      obtain ⟨va, vc, rfl⟩ := own_slice h4
      obtain ⟨LN, eLN⟩ : ∃ LN, l.length = LN := ⟨_, rfl⟩
      rw [eLN] at PO ⊢
      have H := hide (And.intro h1 (And.intro hk2 (And.intro h2 (And.intro hD (And.intro tab (And.intro eL hl8))))))
      clear h1 h2 hD h4 hk2 LA tab hl8 eLN eL
      go_wp2_with fail
      refine PO.mono ?_; rintro e w3 ⟨pb, rfl, lg, lt, ⟨pv, gv, tv, vs, hpla⟩, hwg, hwt, hog, hot, hlg, hlt, hpb, hk3⟩
      have HI : Hid (∃ (ms : List Mv) (σ : Sig) (L' : List Sg) (ls : List (List St)) (lg lt : List Wt) (pv gv tv : Value) (vs : List Value), ms.length = 0 ∧ MoI w n' L ks most pb w2.heap.size w3 ms (.slice none 0 0) σ L' ls lg lt pv gv tv vs) := by
        obtain ⟨h1, hk2, h2, hD, tab, eL, hl8⟩ := H.out
        have hN := HN.out
        rw [eL] at tab h2 hD
        refine hide ⟨[], sg0 n' L ks, L, _, lg, lt, pv, gv, tv, vs, rfl, hpla, hwg, hwt, hog, hot, by omega, by omega, ?_, ?_, .nil _, inv0 tab h1.2.2 HU.out.2.2.2 (by omega) (by omega), ?_, (fun m hm => by cases hm), World.ownsRow_nil _ _ _ _, hk2.andNu hk3, hk2.size, hpb⟩
        · exact rel_init h2 hD n'
        · intro i x hx
          have hi : i < n' := by
            have := (List.getElem?_eq_some_iff.1 hx).1
            simpa using this
          rw [List.getElem?_map, List.getElem?_range hi] at hx
          cases hx
          exact Nat.le_trans (List.length_filter_le _ _) hl8
        · have := sp0 n' L ks
          simpa using this
      clear PO hpla hwg hwt hog hot hlg hlt hpb hk3
      have hBw : w2.heap.size = w2.heap.size := rfl
      obtain ⟨B, eB⟩ : ∃ B, w2.heap.size = B := ⟨_, rfl⟩
      rw [eB] at HI
      clear hBw eB
      go_wp2
      go_loopw [13] (fun mv wr => ∃ (a : Option Addr) (N c : Nat), mv = .slice a N c ∧ N ≤ 4096 ∧ Hid (∃ (ms : List Mv) (σ : Sig) (L' : List Sg) (ls : List (List St)) (lg lt : List Wt) (pv gv tv : Value) (vs : List Value), ms.length = N ∧ MoI w n' L ks most pb B wr ms (.slice a N c) σ L' ls lg lt pv gv tv vs)) (fun mv _ => 4097 - lenV mv)
      case atStart => exact ⟨none, 0, 0, rfl, by omega, HI⟩
      case round =>
        obtain ⟨a, N, c, rfl, hN4, hI⟩ := hrel
        obtain ⟨ms, σ, L', ls, lg, lt, pv, gv, tv, vs, eN, hI⟩ := hI.out
        obtain ⟨ga, gc, egv⟩ := own_slice hI.pla.rg
        obtain ⟨NG, eNG⟩ : ∃ NG, lg.length = NG := ⟨_, rfl⟩
        rw [eNG] at egv
        subst egv
        have LN := len50 wr ga NG gc
        obtain ⟨p0, p1, p2⟩ := cell3 hI.pla.blk
        have HJ := hide (And.intro hI (And.intro eN eNG))
        by_cases hg0 : 0 < NG
        · have dg : decide ((NG : Int) > 0) = true := by simpa using hg0
          obtain ⟨g, kk, P0, p, l', s, hNx⟩ := hI.next (by omega)
          have hm := HM.out
          have hks := HU.out.2.1
          have hs1 := hNx.ps.n
          have hc1 := hNx.c1
          have hcl := hNx.cl
          have NX := next51 wr B pb ls lg lt pv _ tv vs most g l' s ((ks.drop p.a).take p.c) hI.pla (by omega) hNx.lt0 hI.lg16 hI.lt16 hI.hg hI.ht hNx.eg hNx.g16 hNx.lsg (by have := hI.pil g _ hNx.lsg; rw [List.length_append] at this; omega) (hNx.ps.us.nu hI.kp) ((H.out.1.2.2.drop p.a).take p.c) (fun x hx => HU.out.2.2.2 x (List.mem_of_mem_drop (List.mem_of_mem_take hx))) (by omega) (by omega) hm.1 hm.2 ⟨hNx.gp.1, by have := hNx.gp.2; omega⟩ ⟨hNx.tp.1, by have := hNx.tp.2; omega⟩
          obtain ⟨G, eG⟩ : ∃ G, we lg 0 = G := ⟨_, rfl⟩
          obtain ⟨T, eT⟩ : ∃ T, we lt 0 = T := ⟨_, rfl⟩
          rw [eG, eT] at NX
          have HX := hide (And.intro hNx (And.intro eG eT))
          clear hI hNx hm hks hs1 hc1 hcl eG eT eNG
          go_wp2_with fail
          refine LN.mono ?_; rintro e w5 ⟨rfl, hw⟩
          obtain rfl := hw.symm
          clear LN
          go_wp2_with fail
          refine NX.mono ?_; rintro e w6 ⟨lo, m, t, lg', lt', rfl, hT, hpg, hhg, hpt, hht, hpl', hk6⟩
          obtain ⟨gv', tv', vs', hpl'⟩ := hpl'
          have hrow6 : w6.ownsRow B 41 5 (.slice a N c) N (cellsMs ms) := by
            have h := HJ.out.1.row
            rw [HJ.out.2.1] at h
            exact own_keep h (fun g e => by
              obtain ⟨cc, hcc⟩ := own_obj h e
              exact sp4_other hk6 hcc (fun e2 => by rw [e2, HJ.out.1.pla.blk] at hcc; cases hcc) (by decide) (by decide) (by decide))
          have kw6 : Kp Nu w w6 := HJ.out.1.kp.trans hk6 (fun g hg e => by
            have := e.low HJ.out.1.Bw HJ.out.1.Bpb
            omega)
          have H6 := hide (And.intro hT (And.intro hpg (And.intro hhg (And.intro hpt (And.intro hht (And.intro hpl' (And.intro kw6 (And.intro hrow6 hk6))))))))
          obtain ⟨i0, hiT, hz0, hz1, hz2⟩ := info_parts info59
          clear NX hT hpg hhg hpt hht hpl' kw6 hrow6 hk6 p0 p1 p2
          go_wp2_with (at_builtin; refine unhid ?_)
          refine wpList_append_lies _ rfl _ _ 27 rfl B 41 i0 _ 5 32 Tryz.underlying27 hiT hz0 hz1 hz2 rfl (by decide) (.slice a N c) N (cellsMs ms) rfl (H6.out.2.2.2.2.2.2.2.1.alloc _) ⟨w6.heap.size, 0, none⟩ 1 1 [.int .u8 G.h, .int .u8 T.h, .int .u64 lo, .int .u64 s.sg.hi, .int .i64 (m : Int)] (by first | rfl | (simp; done)) rfl (World.news_of_block (heap_alloc_new _ _)) (by simp [Value.oneCell']) (by decide) (by unfold maxLen; omega) (by omega) (by rw [World.size_alloc]; have := blk_lt H6.out.2.2.2.2.2.1.blk; have := HJ.out.1.Bpb; omega) _ rfl ?_
          intro g3 cap3 w7 hown7 hgrow7 hat7 hlt7
          have kA7 := Kp.alloc w6 (.cells #[.int .u8 G.h, .int .u8 T.h, .int .u64 lo, .int .u64 s.sg.hi, .int .i64 (m : Int)] 41) Nu
          have kg := Kp.of_grown hgrow7
          obtain ⟨hT, hpg, hhg, hpt, hht, hpl', kw6, hrow6, hk6⟩ := H6.out
          have hrowA := own_keep hrow6 (fun g e => kA7.block g (own_lt hrow6 e) (fun h => h))
          have pla7 := (hpl'.nu kA7).oth kg (fun g e c t hg => by
            obtain ⟨cc, hcc⟩ := own_obj hrowA e.symm
            rw [hg] at hcc
            cases hcc
            rfl)
          have kw7 : Kp Nu w w7 := (kw6.andNu kA7).trans kg (fun g hg e => by
            have := (hrow6.lt g e.symm).1
            have := HJ.out.1.Bw
            omega)
          obtain ⟨hNx, eG, eT⟩ := HX.out
          have HS : Hid (∃ (ms' : List Mv) (σ' : Sig) (L'' : List Sg) (ls' : List (List St)), ms'.length = N + 1 ∧ MoI w n' L ks most pb B w7 ms' (.slice (some ⟨g3, 0, none⟩) (N + 1) cap3) σ' L'' ls' lg' lt' pv gv' tv' vs') := by
            rw [← eG, ← eT] at hT hown7
            have hmm := HJ.out.2.1
            obtain ⟨ms', σ', L'', ls', e1, e2⟩ := HJ.out.1.step hNx H.out.1.2.2 HU.out.2.2.2 HM.out.1 (by have := HJ.out.2.2; omega) hT hpg hhg hpt hht pla7 kw7 (by rw [hmm]; exact hown7)
            exact hide ⟨ms', σ', L'', ls', by omega, e2⟩
          have hN5 : N + 1 ≤ 4096 := by
            obtain ⟨ms', σ', L'', ls', e1, e2⟩ := HS.out
            have h1 := e2.bnd
            have h2 := Pn.sp_nonneg σ'.gv
            have h3 := HU.out.2.1
            omega
          clear kA7 kg hT hpg hhg hpt hht hpl' kw6 hrow6 hk6 hrowA pla7 kw7 hNx eG eT hown7 hgrow7 hat7 hlt7
          go_wp2
          obtain ⟨ms', σ', L'', ls', e1, e2⟩ := HS.out
          exact ⟨⟨some ⟨g3, 0, none⟩, N + 1, cap3, rfl, hN5, hide ⟨ms', σ', L'', ls', lg', lt', pv, gv', tv', vs', e1, e2⟩⟩, by simp [lenV]; omega⟩
        · obtain rfl : NG = 0 := by omega
          clear hI eN eNG hg0
          go_wp2_with fail
          refine LN.mono ?_; rintro e w5 ⟨rfl, hw⟩
          obtain rfl := hw.symm
          clear LN
          go_wp2
          go_ret2
          obtain ⟨hI, eN, eNG⟩ := HJ.out
          obtain ⟨h1, _, _, _, _, eL, _⟩ := H.out
          have hfin : Fin σ := by
            have e : lg = [] := List.eq_nil_of_length_eq_zero eNG
            have hw := hI.wg
            rw [e] at hw
            exact hw.none
          have hb := hI.bnd
          have hs := Pn.sp_nonneg σ.gv
          have h3 := HU.out.2.1
          refine ⟨_, _, rfl, .inr (.inr ⟨⟨HN.out, HM.out⟩, h1, rfl, n', rfl, ms, σ, ?_, hfin, ?_, by omega⟩), hI.kp⟩
          · rw [eL]; exact hI.stp
          · refine mvs_of_own (B := B) ?_ hI.fit
            exact hI.row
end Go.Proofs.YtbifmcadllilhaaGreat.Rg
