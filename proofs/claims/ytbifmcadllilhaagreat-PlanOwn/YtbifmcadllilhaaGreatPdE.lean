import Derived.Test.YtbifmcadllilhaaGreatPtT
import Derived.StillTailTactics
import Derived.Test.YtbifmcadllilhaaGreatLdH
namespace Go.Proofs.YtbifmcadllilhaaGreat.Pn
open Go.RowKit
set_option linter.unusedVariables false
theorem Hq.put {w : World} {g N : Nat} {D D' : Nat → Prop} {f : Nat → Int} (h : Hq w g N D f) (i : Nat) (v : Value) (hD : ∀ q, D' q → q ≠ i ∧ D q) : Hq (w.setCell ⟨g, i, none⟩ v) g N D' f := by
  obtain ⟨cur, p1, p2, p3⟩ := h.mem
  refine ⟨_, set3 p1 _ _, by simp [p2], fun q hq => ?_⟩
  rw [Array.getElem?_setIfInBounds_ne (fun e' => (hD q hq).1 e'.symm), p3 q (hD q hq).2]
theorem hcs_ics (s : List Nat) : hcs s = ics (s.map (fun (x : Nat) => (x : Int))) := by simp [hcs, ics]
/-- the hosts that have been gone through -/
def Dn (s : List Nat) (p h : Nat) : Prop := ∃ q : Nat, q < p ∧ s[q]? = some h
structure TgI (w wr : World) (o : List Int) (s : List Nat) (N gt g p : Nat) : Prop where
  hq : Hq wr gt N (Dn s p) (tgt o)
  row : wr.ownsRow (gt + 1) 3 1 (.slice (some ⟨g, 0, none⟩) N N) N (hcs s)
  kp : Kp Nu w wr
theorem TgI.one {w wr : World} {o : List Int} {s : List Nat} {N gt g p h : Nat} (hI : TgI w wr o s N gt g p) (hs : s[p]? = some h) (hgt : w.heap.size ≤ gt) (hh : h < N) : TgI w (wr.setCell ⟨gt, h, none⟩ (.int .i64 (tgt o h))) o s N gt g (p + 1) := by
  refine ⟨hI.hq.set (f' := tgt o) hh (fun q hq => ?_) (fun q _ _ => rfl), ?_, hI.kp.andSet _ _ (.inl hgt)⟩
  · obtain ⟨r, hr, e⟩ := hq
    by_cases er : r = p
    · subst er
      rw [hs] at e
      cases e
      exact .inl rfl
    · exact .inr ⟨r, by omega, e⟩
  · refine own_keep hI.row (fun g' hg' => (Kp.setCell wr ⟨gt, h, none⟩ _).block g' (own_lt hI.row hg') (fun e => ?_))
    have := own_ge hI.row hg'
    have e : g' = gt := e
    omega
theorem TgI.two {w wr : World} {o : List Int} {s : List Nat} {N gt g p h : Nat} (hI : TgI w wr o s N gt g p) (hs : s[p]? = some h) (hgt : w.heap.size ≤ gt) (hh : h < N) (hno : ¬ Dn s p h) (v : Value) : TgI w ((wr.setCell ⟨gt, h, none⟩ v).setCell ⟨gt, h, none⟩ (.int .i64 (tgt o h))) o s N gt g (p + 1) := by
  refine TgI.one ⟨hI.hq.put h v (fun q hq => ⟨fun e => hno (e ▸ hq), hq⟩), ?_, hI.kp.andSet _ _ (.inl hgt)⟩ hs hgt hh
  refine own_keep hI.row (fun g' hg' => (Kp.setCell wr ⟨gt, h, none⟩ _).block g' (own_lt hI.row hg') (fun e => ?_))
  have := own_ge hI.row hg'
  have e : g' = gt := e
  omega
set_option maxRecDepth 100000 in
set_option maxHeartbeats 2000000 in
theorem targetsOf31 (w : World) (b : Addr) (cp : Nat) (o : List Int) (N : Nat) (hO : Ns w (.slice (some b) N cp) o) (hN : o.length = N) (hm : MBL o) (hb : b.block < w.heap.size) :
    Calls Tryz.prog 48 #[.slice (some b) N cp] w fun e w' => ∃ g, e = .returned (.slice (some ⟨g, 0, none⟩) N N) ∧ w'.ownsRow w.heap.size 3 1 (.slice (some ⟨g, 0, none⟩) N N) N (ics (tgs o N)) ∧ Kp Nu w w' := by
  have mixed : Tryz.prog.follows .mixedOrders = true := by kernel_rfl
  have T := total28 w.drew _ o (hO.nu (kp_drawn w)) hm
  obtain ⟨S, eS⟩ : ∃ S, o.sum = S := ⟨_, rfl⟩
  have hsb := sum_bound hm.2.2
  rw [eS] at hsb T
  have hl := hm.2.1
  have hl1 := hm.1
  rw [hN] at hsb hl hl1
  have hS0 : 0 ≤ S := hsb.1
  have hS1 : S ≤ 17179869184 := by omega
  have hNI : (N : Int) ≤ 16 := by omega
  have hN1 : (1 : Int) ≤ (N : Int) := by omega
  have hne : (N : Int) ≠ 0 := by omega
  have hne2 : ((N : Int) == 0) = false := by simpa using hne
  have hne3 : ¬ N = 0 := by omega
  obtain ⟨D, eD⟩ : ∃ D, S / (N : Int) = D := ⟨_, rfl⟩
  obtain ⟨R, eR⟩ : ∃ R, S % (N : Int) = R := ⟨_, rfl⟩
  have hD0 : 0 ≤ D := by rw [← eD]; exact Int.ediv_nonneg hS0 (by omega)
  have hD1 : D ≤ S := by rw [← eD]; exact Int.ediv_le_self _ hS0
  have et1 : S.tdiv (N : Int) = D := by rw [Int.tdiv_eq_ediv_of_nonneg hS0, eD]
  have et2 : S.tmod (N : Int) = R := by rw [Int.tmod_eq_emod_of_nonneg hS0, eR]
  have ew1 : wrap64 D = D := by unfold wrap64; omega
  have ew2 : IntKind.i64.wrap D = D := by rw [IntKind.wrap_i64]; omega
  have ew3 : wrap64 (D + 1) = D + 1 := by unfold wrap64; omega
  have ew4 : IntKind.i64.wrap (D + 1) = D + 1 := by rw [IntKind.wrap_i64]; omega
  have HO := hide (And.intro hO (And.intro hN (And.intro hm (And.intro hb (And.intro eS (And.intro hl hl1))))))
  have HV : Hid (∀ h p, nAhd o h o.length = p → tgt o h = D + (if (p : Int) < R then 1 else 0)) := hide (fun h p e => by
    unfold tgt
    rw [e, HO.out.2.2.2.2.1, HO.out.2.1, eD, eR])
  clear hO hN hm hb eS hsb hl1
  obtain ⟨z0, hzi, hz0, hz1, hz2⟩ := info_parts info3z
  go_enter Tryz.func48, Tryz.ntmps48
  go_wp2_with fail
  refine wp_region_still_lit mixed (by kernel_rfl) ?_
  still_step
  still_call T
  still_step
  still_step
  still_step
  still_step
  still_call T
  still_step
  still_step
  still_step
  still_step
  still_step
  refine wpStill_nil ?_
  clear T
  go_wp2_with (at_make; refine wpList_make_full _ rfl _ _ 45 rfl w.heap.size 3 z0 _ 1 Tryz.underlying45 hzi hz0 hz1 _ _ _ _ N rfl rfl rfl rfl (by rw [hz2]; omega) (by unfold maxLen; omega) (Nat.le_refl _) ?_; intro w4 hrow4 hgr4)
  have hq4 := hq_made (tgt o) hrow4
  have k4 : Kp Nu w w4 := (kp_drawn w).andNu ((Kp.of_grown hgr4).mono (fun _ _ e => by cases e))
  have BL := byLoad55 w4 b cp o N (HO.out.1.nu k4) HO.out.2.1 HO.out.2.2.2.2.2.2 HO.out.2.2.2.2.2.1 (Nat.lt_of_lt_of_le HO.out.2.2.2.1 k4.size)
  have H4 := hide (And.intro hq4 k4)
  clear hrow4 hgr4 hq4 k4
  go_wp2_with fail
  refine BL.mono ?_; rintro e w5 ⟨g, s, rfl, hs, hrow5, hk5⟩
  have H0 : Hid (TgI w w5 o s N w.heap.size g 0) := hide ⟨⟨by obtain ⟨cur, p1, p2, p3⟩ := (H4.out.1.nu hk5).mem; exact ⟨cur, p1, p2, fun q ⟨r, hr, _⟩ => by omega⟩⟩, own_base hrow5 (by have := H4.out.1.lt; exact this), H4.out.2.andNu hk5⟩
  have HS := hide hs
  clear BL hs hrow5 hk5 H4
  go_wp2
  go_loopw [24] (fun iv wr => ∃ p : Nat, iv = .int .i64 (p : Int) ∧ p ≤ N ∧ Hid (TgI w wr o s N w.heap.size g p)) (fun iv _ => N - (intOf iv).toNat)
  case atStart => exact ⟨0, rfl, Nat.zero_le _, H0⟩
  case round =>
    clear H0
    obtain ⟨p, rfl, hp, hI⟩ := hrel
    have hp0 : (0 : Int) ≤ (p : Int) := by omega
    by_cases hlt : p < N
    · have hltI : (p : Int) < (N : Int) := by omega
      obtain ⟨h, hh⟩ : ∃ h, s[p]? = some h := ⟨_, List.getElem?_eq_getElem (by rw [HS.out.len, HO.out.2.1]; exact hlt)⟩
      have hhN : h < N := by have := HS.out.lt hh; rw [HO.out.2.1] at this; exact this
      have hns : Ns wr (.slice (some ⟨g, 0, none⟩) (s.map (fun (x : Nat) => (x : Int))).length N) (s.map (fun (x : Nat) => (x : Int))) := by
        have q := hI.out.row
        rw [hcs_ics] at q
        have e : N = (s.map (fun (x : Nat) => (x : Int))).length := by rw [List.length_map, HS.out.len, HO.out.2.1]
        refine Ns.of_own (B := w.heap.size + 1) ?_
        rw [← e]
        exact q
      obtain ⟨b2, e2, c2⟩ := hns.at_ (j := p) (x := (h : Int)) (by simp [hh])
      simp only [Option.some.injEq] at e2
      subst e2
      rw [Addr.add_lit, Nat.zero_add] at c2
      obtain ⟨v, hv⟩ := hI.out.hq.room hhN
      have hf := hI.out.hq.free h
      have hh0 : (0 : Int) ≤ (h : Int) := by omega
      have hhI : (h : Int) < (N : Int) := by omega
      have etp : (p : Int).toNat = p := by omega
      have eth : (h : Int).toNat = h := by omega
      have hpl := HS.out.place hh
      have htv := HV.out h p hpl
      have hno : ¬ Dn s p h := fun ⟨r, hr, e⟩ => by have := HS.out.nodup e hh; omega
      have HH := hide (And.intro hh (And.intro hhN hno))
      clear hns hpl hno
      by_cases hpR : (p : Int) < R
      · have x1 : decide ((p : Int) < R) = true := by simpa using hpR
        have hv2 : D + 1 = tgt o h := by rw [htv, if_pos hpR]
        have HF := hI.out.two hh (Nat.le_refl _) hhN HH.out.2.2 (.int .i64 D)
        rw [← hv2] at HF
        have HF2 := hide HF
        clear hpR htv hv2 HF hh
        go_wp2
        exact ⟨⟨p + 1, by go_num, by omega, HF2⟩, by simp [intOf]; omega⟩
      · have x1 : decide ((p : Int) < R) = false := by simpa using hpR
        have hv2 : D = tgt o h := by rw [htv, if_neg hpR]; omega
        have HF := hI.out.one hh (Nat.le_refl _) hhN
        rw [← hv2] at HF
        have HF2 := hide HF
        clear hpR htv hv2 HF hh
        go_wp2
        exact ⟨⟨p + 1, by go_num, by omega, HF2⟩, by simp [intOf]; omega⟩
    · have hge : ¬ (p : Int) < (N : Int) := by omega
      obtain rfl : N = p := by omega
      have HE : Hid (wr.ownsRow w.heap.size 3 1 (.slice (some ⟨w.heap.size, 0, none⟩) N N) N (ics (tgs o N))) := hide (hI.out.hq.own (fun q hq => by
        obtain ⟨r, hr⟩ := HS.out.has (x := q) (by rw [HO.out.2.1]; exact hq)
        have hr2 := (List.getElem?_eq_some_iff.1 hr).1
        rw [HS.out.len, HO.out.2.1] at hr2
        exact ⟨r, hr2, hr⟩) (Nat.le_refl _) HO.out.2.2.2.2.2.1 _ (by simp [ics, tgs]))
      go_wp2
      go_ret
      exact ⟨_, rfl, HE.out, hI.out.kp⟩
end Go.Proofs.YtbifmcadllilhaaGreat.Pn
namespace Go.Proofs.YtbifmcadllilhaaGreat.Pn
open Go.RowKit
set_option linter.unusedVariables false
/-- what Targets answers -/
def TaR (o : List Int) (w : World) (e : Ending) (w' : World) : Prop :=
  (¬ MBL o ∧ e = .returned (.tuple #[.slice none 0 0, .int .i64 150]) ∧ Kp Nu w w') ∨
  (MBL o ∧ ∃ a c, e = .returned (.tuple #[.slice a o.length c, .int .i64 0]) ∧ w'.ownsRow w.heap.size 3 1 (.slice a o.length c) o.length (ics (tgs o o.length)) ∧ Kp Nu w w')
theorem Ns.addr {w : World} {a : Option Addr} {n cap : Nat} {o : List Int} (h : Ns w (.slice a n cap) o) (hn : 1 ≤ o.length) : ∃ b, a = some b ∧ b.block < w.heap.size := by
  have h0 : 0 < o.length := by omega
  obtain ⟨x, hx⟩ : ∃ x, o[(0 : Nat)]? = some x := ⟨o[0], List.getElem?_eq_getElem h0⟩
  obtain ⟨b, hb, hc⟩ := h.at_ hx
  have := World.block_lt_of_cell? w _ hc
  rw [add_block] at this
  exact ⟨b, hb, this⟩
set_option maxRecDepth 100000 in
set_option maxHeartbeats 1000000 in
theorem targets13 (w : World) (u : Value) (o : List Int) (h : Ns w u o) (hN : o.length ≤ 140737488351232) : Calls Tryz.prog 40 #[u] w fun e w' => TaR o w e w' := by
  have MB := mayBe27 w u o h hN
  obtain ⟨a, cap, rfl, _, _⟩ := id h
  obtain ⟨N, eN⟩ : ∃ N, o.length = N := ⟨_, rfl⟩
  have HN := hide (And.intro h eN)
  rw [eN] at MB ⊢
  clear h hN eN
  go_enter Tryz.func40, Tryz.ntmps40
  go_wp2_with fail
  refine MB.mono ?_; rintro e w1 ⟨⟨b1, rfl, hb1⟩, hw⟩
  obtain rfl := hw
  have HB := hide hb1
  clear MB hb1
  cases b1 with
  | false =>
    go_wp2
    go_ret2
    exact .inl ⟨fun q => by have := HB.out.2 q; simp at this, rfl, Kp.refl _ _⟩
  | true =>
  have hm : MBL o := HB.out.1 (by simp)
  have hns := HN.out.1
  rw [HN.out.2] at hns
  obtain ⟨b, rfl, hb⟩ := hns.addr hm.1
  have T := targetsOf31 w1 b cap o N hns HN.out.2 hm hb
  have HM := hide hm
  clear hm hns hb
  go_wp2_with fail
  refine T.mono ?_; rintro e w2 ⟨g, rfl, hrow, hk⟩
  have HR := hide (And.intro hrow hk)
  clear T hrow hk
  go_wp2
  go_ret2
  refine .inr ⟨HM.out, some ⟨g, 0, none⟩, N, ?_, ?_, HR.out.2⟩
  · rw [HN.out.2]; rfl
  · rw [HN.out.2]; exact HR.out.1
end Go.Proofs.YtbifmcadllilhaaGreat.Pn
namespace Go.Proofs.YtbifmcadllilhaaGreat.Rg
open Go.RowKit Go.Shelf Go.Sort
open Go.Proofs.YtbifmcadllilhaaGreat.It
set_option linter.unusedVariables false
theorem Kp.ofPn {a b : World} (h : Pn.Kp Pn.Nu a b) : Kp Nu a b := ⟨h.os, h.tape, h.output, h.size, fun k hk _ => h.block k hk (fun h => h)⟩
theorem Kp.toPn {a b : World} (h : Kp Nu a b) : Pn.Kp Pn.Nu a b := ⟨h.os, h.tape, h.output, h.size, fun k hk _ => h.block k hk (fun h => h)⟩
theorem kp_dn (w : World) (n : Nat) : Kp Nu w (w.drewN n) := ⟨rfl, rfl, rfl, Nat.le_refl _, fun _ _ _ => rfl⟩
theorem kp_drawn (w : World) : Kp Nu w w.drew := ⟨rfl, rfl, rfl, Nat.le_refl _, fun _ _ _ => rfl⟩
/-- keys in memory -/
def Us (w : World) (u : Value) (o : List Int) : Prop := ∃ a cap, u = .slice a o.length cap ∧ o.length ≤ cap ∧ ∀ (j : Nat) x, o[j]? = some x → ∃ b : Addr, a = some b ∧ w.cell? (b.add j) = some (.int .u64 x)
theorem Us.nu {w w' : World} {u : Value} {o : List Int} (h : Us w u o) (k : Kp Nu w w') : Us w' u o := by
  obtain ⟨a, cap, h0, h2, h1⟩ := h
  refine ⟨a, cap, h0, h2, fun j x hx => ?_⟩
  obtain ⟨b, hb, hc⟩ := h1 j x hx
  exact ⟨b, hb, (World.cell?_of_block (k.block _ (World.block_lt_of_cell? w _ hc) (fun h => h))).trans hc⟩
theorem Us.at_ {w : World} {a : Option Addr} {n cap : Nat} {o : List Int} (h : Us w (.slice a n cap) o) {j : Nat} {x : Int} (hx : o[j]? = some x) : ∃ b : Addr, a = some b ∧ w.cell? (b.add j) = some (.int .u64 x) := by
  obtain ⟨a', cap', h0, h2, h1⟩ := h
  simp only [Value.slice.injEq] at h0
  obtain ⟨rfl, _, _⟩ := h0
  exact h1 j x hx
theorem Us.len {w : World} {a : Option Addr} {n cap : Nat} {o : List Int} (h : Us w (.slice a n cap) o) : n = o.length := by
  obtain ⟨a', cap', h0, h2, h1⟩ := h
  simp only [Value.slice.injEq] at h0
  exact h0.2.1
theorem Us.cap {w : World} {a : Option Addr} {n cap : Nat} {o : List Int} (h : Us w (.slice a n cap) o) : n ≤ cap := by
  obtain ⟨a', cap', h0, h2, h1⟩ := h
  simp only [Value.slice.injEq] at h0
  omega
/-- keys as cells -/
def ucs (o : List Int) : List Value := o.map (Value.int .u64)
theorem ucs_len (o : List Int) : (ucs o).length = o.length := by simp [ucs]
theorem info56z : (Tryz.prog.info? 24).map (fun i => (i.zero, i.size, i.bytes)) = some (some (.int .u64 0), 1, 8) := by kernel_rfl
theorem Us.of_own {w : World} {B : Nat} {v : Value} {o : List Int} (h : w.ownsRow B 24 1 v o.length (ucs o)) : Us w v o := by
  rcases h.2 with ⟨rfl, h0⟩ | ⟨g, cap, cur, rfl, hb', hg, h1, h2, h3, h4⟩
  · obtain rfl : o = [] := List.eq_nil_of_length_eq_zero h0
    exact ⟨none, 0, rfl, by simp, fun j x hx => by simp at hx⟩
  · refine ⟨some ⟨g, 0, none⟩, cap, rfl, by omega, fun j x hx => ⟨_, rfl, ?_⟩⟩
    have hj : (ucs o)[j]? = some (.int .u64 x) := by simp [ucs, hx]
    rw [← h4] at hj
    have hj2 : j < o.length * 1 := by
      have := (List.getElem?_eq_some_iff.1 hj).1
      rw [List.length_take] at this
      omega
    rw [List.getElem?_take_of_lt hj2] at hj
    rw [Addr.add_lit]
    simpa [World.cell?, hg] using hj
/-- keys appended to none: a row of one's own -/
theorem append_us {w : World} {ops : Array Oper} {rest : List Oper} {op : Oper} {a : Act} {Q : Exit → Act → World → Prop} (hgd : op.guard = none) (s x : Operand)
    (ho : op.op = .call { callee := .builtin .append, args := #[s, x], argTypes := #[23, 23] }) (base : Nat) (va : Option Addr) (vc : Nat) (o : List Int) (hl : o.length * 8 ≤ 140737488351232)
    (hs : a.eval s = .slice none 0 0) (hx : a.eval x = .slice va o.length vc) (hO : Us w (.slice va o.length vc) o) (hnil : va = none → vc = 0) (hbase : base ≤ w.heap.size)
    (h : ∀ oa oc w', w'.ownsRow base 24 1 (.slice oa o.length oc) o.length (ucs o) → Kp Nu w w' → wpList Tryz.prog ops Q rest (a.put op.dst (.slice oa o.length oc)) w') : wpList Tryz.prog ops Q (op :: rest) a w := by
  obtain ⟨i0, hi0, hz0, hz1, hz2⟩ := info_parts info56z
  rcases va with _ | ad
  · have hM0 : o = [] := by
      cases o with
      | nil => rfl
      | cons x o => obtain ⟨b, hb, _⟩ := hO.at_ (j := 0) rfl; cases hb
    have hvc := hnil rfl
    subst hM0
    subst hvc
    exact wpList_append_own_none hgd s x 23 ho base 24 i0 1 Tryz.underlying23 hi0 _ 0 [] hs (World.ownsRow_nil _ _ _ _) hx (h none 0 _ (World.ownsRow_nil _ _ _ _) (Kp.refl _ _))
  · refine wpList_append_own _ hgd s x 23 ho base 24 i0 _ 1 8 Tryz.underlying23 hi0 hz0 hz1 hz2 rfl (by decide) (.slice none 0 0) 0 [] hs (World.ownsRow_nil _ _ _ _) ad o.length vc (ucs o) hx (by simp [ucs_len]) (fun j x hj => ?_) (fun u hu => ?_) (by unfold maxLen; omega) (by omega) hbase ?_
    · simp only [ucs, List.getElem?_map, Option.map_eq_some_iff] at hj
      obtain ⟨y, hy, rfl⟩ := hj
      obtain ⟨b, hb, hc⟩ := hO.at_ hy
      cases hb
      exact hc
    · obtain ⟨x, _, rfl⟩ := List.mem_map.1 hu
      rfl
    · intro v' w' h1 h2 _
      rw [Nat.zero_add, List.nil_append] at h1
      obtain ⟨oa, oc, rfl, _, _⟩ := id (Us.of_own h1)
      exact h oa oc w' h1 ((Kp.of_grown h2).mono (fun i hi e => by simp [Value.ownBlock] at e))
set_option maxRecDepth 100000 in
set_option maxHeartbeats 1000000 in
theorem same21 (w : World) (u v : Value) (o : List Int) (hu : Us w u o) (hv : Us w v o) (hN : o.length ≤ 140737488351232) : Calls Tryz.prog 20 #[u, v] w fun e w' => e = .returned (.bool true) ∧ Kp Nu w w' := by
  obtain ⟨a1, c1, rfl, _, _⟩ := id hu
  obtain ⟨a2, c2, rfl, _, _⟩ := id hv
  obtain ⟨N, eN⟩ : ∃ N, o.length = N := ⟨_, rfl⟩
  have HU := hide (And.intro hu (And.intro hv eN))
  rw [eN] at hN ⊢
  have hNI : (N : Int) ≤ 140737488351232 := by omega
  have hnn : ((N : Int) != (N : Int)) = false := by simp
  clear hu hv eN hN
  go_enter Tryz.func20, Tryz.ntmps20
  go_wp2
  go_loopw [5] (fun iv wr => ∃ i : Nat, iv = .int .i64 (i : Int) ∧ i ≤ N ∧ Hid (Kp Nu w wr)) (fun iv _ => N - (intOf iv).toNat)
  case atStart => exact ⟨0, rfl, Nat.zero_le _, hide (Kp.refl _ _)⟩
  case round =>
    obtain ⟨i, rfl, hi, hk⟩ := hrel
    have hi0 : (0 : Int) ≤ (i : Int) := by omega
    by_cases hlt : i < N
    · have hltI : (i : Int) < (N : Int) := by omega
      obtain ⟨x, hx⟩ : ∃ x, o[i]? = some x := ⟨_, List.getElem?_eq_getElem (by rw [HU.out.2.2]; exact hlt)⟩
      obtain ⟨b1, rfl, k1⟩ := (HU.out.1.nu hk.out).at_ hx
      obtain ⟨b2, rfl, k2⟩ := (HU.out.2.1.nu hk.out).at_ hx
      have eti : (i : Int).toNat = i := by omega
      have hne : (x != x) = false := by simp
      clear hx
      go_wp2_with fail
      go_quiet (fail)
      go_wp2
      exact ⟨⟨i + 1, by go_num, by omega, hide (hk.out.andNu (kp_dn _ _))⟩, by simp [intOf]; omega⟩
    · have hge : ¬ (i : Int) < (N : Int) := by omega
      go_wp2
      go_ret
      exact ⟨rfl, hk.out⟩
/-- each above the one ahead of it -/
def Ris (o : List Int) : Prop := ∀ (i : Nat) x y, o[i]? = some x → o[i + 1]? = some y → x < y
set_option maxRecDepth 100000 in
set_option maxHeartbeats 1000000 in
theorem rise68 (w : World) (u : Value) (o : List Int) (hu : Us w u o) (hN : o.length ≤ 140737488351232) : Calls Tryz.prog 43 #[u] w fun e w' => Pn.Ans (Ris o) e ∧ Kp Nu w w' := by
  obtain ⟨a1, c1, rfl, _, _⟩ := id hu
  obtain ⟨N, eN⟩ : ∃ N, o.length = N := ⟨_, rfl⟩
  have HU := hide (And.intro hu eN)
  rw [eN] at hN ⊢
  have hNI : (N : Int) ≤ 140737488351232 := by omega
  clear hu eN hN
  go_enter Tryz.func43, Tryz.ntmps43
  go_wp2
  go_loopw [3] (fun iv wr => ∃ i : Nat, iv = .int .i64 (i : Int) ∧ 1 ≤ i ∧ (i ≤ N ∨ i = 1) ∧ Hid ((∀ (j : Nat) x y, j + 1 < i → o[j]? = some x → o[j + 1]? = some y → x < y) ∧ Kp Nu w wr)) (fun iv _ => N - (intOf iv).toNat)
  case atStart => exact ⟨1, rfl, Nat.le_refl _, .inr rfl, hide ⟨fun j x y h => by omega, Kp.refl _ _⟩⟩
  case round =>
    obtain ⟨i, rfl, hi1, hi, hk⟩ := hrel
    have hi0 : (0 : Int) ≤ (i : Int) := by omega
    by_cases hlt : i < N
    · have hltI : (i : Int) < (N : Int) := by omega
      obtain ⟨m, hm⟩ : ∃ m, i = m + 1 := ⟨i - 1, by omega⟩
      obtain ⟨x, hx⟩ : ∃ x, o[i]? = some x := ⟨_, List.getElem?_eq_getElem (by rw [HU.out.2]; exact hlt)⟩
      obtain ⟨y, hy⟩ : ∃ y, o[m]? = some y := ⟨_, List.getElem?_eq_getElem (by rw [HU.out.2]; omega)⟩
      obtain ⟨b1, rfl, k1⟩ := (HU.out.1.nu hk.out.2).at_ hx
      obtain ⟨b2, e2, k2⟩ := (HU.out.1.nu hk.out.2).at_ hy
      cases e2
      have HX := hide (And.intro hx (And.intro hy hm))
      have eti : (i : Int).toNat = i := by omega
      have ew : IntKind.i64.wrap ((i : Int) - 1) = (m : Int) := by rw [IntKind.wrap_i64]; omega
      have etm : (m : Int).toNat = m := by omega
      have hm0 : 0 ≤ (m : Int) := by omega
      have hm1 : (m : Int) < (N : Int) := by omega
      clear hx hy hm
      by_cases hle : x ≤ y
      · have HL := hide hle
        go_wp2_with fail
        go_quiet (fail)
        go_wp2
        go_ret
        refine ⟨⟨false, rfl, ?_⟩, hk.out.2.andNu (kp_dn _ _)⟩
        simp
        intro hr
        have hX1 := HX.out.1
        rw [HX.out.2.2] at hX1
        have := hr m y x HX.out.2.1 hX1
        have := HL.out
        omega
      · have HL := hide hle
        go_wp2_with fail
        go_quiet (fail)
        go_wp2
        refine ⟨⟨i + 1, by go_num, by omega, .inl (by omega), hide ⟨fun j x' y' hj hx' hy' => ?_, hk.out.2.andNu (kp_dn _ _)⟩⟩, by simp [intOf]; omega⟩
        have hm := HX.out.2.2
        rcases Nat.lt_or_ge (j + 1) i with h | h
        · exact hk.out.1 j x' y' h hx' hy'
        · obtain rfl : j = m := by omega
          have e1 := HX.out.1
          have e2 := HX.out.2.1
          rw [hm] at e1
          rw [hx'] at e2
          rw [hy'] at e1
          cases e1
          cases e2
          have := HL.out
          omega
    · have hge : ¬ (i : Int) < (N : Int) := by omega
      go_wp2
      go_ret
      refine ⟨⟨true, rfl, ?_⟩, hk.out.2⟩
      simp
      intro j x y hx hy
      have h1 := (List.getElem?_eq_some_iff.1 hy).1
      rw [HU.out.2] at h1
      exact hk.out.1 j x y (by omega) hx hy
end Go.Proofs.YtbifmcadllilhaaGreat.Rg
namespace Go.Proofs.YtbifmcadllilhaaGreat.Pn
open Go.RowKit
set_option linter.unusedVariables false
/-- how many owners are this host -/
def cnt (os : List Int) (h : Nat) : Int := ((os.filter (fun x => x == (h : Int))).length : Int)
theorem cnt_snoc (os : List Int) (x : Int) (h : Nat) : cnt (os ++ [x]) h = cnt os h + (if x = (h : Int) then 1 else 0) := by
  unfold cnt
  rw [List.filter_append, List.length_append]
  by_cases e : x = (h : Int)
  · simp [e]
  · have : (x == (h : Int)) = false := by simpa using e
    simp [e, this]
theorem cnt_le (os : List Int) (h : Nat) : 0 ≤ cnt os h ∧ cnt os h ≤ (os.length : Int) := by
  unfold cnt
  have := List.length_filter_le (fun x => x == (h : Int)) os
  omega
/-- the loads of the hosts -/
def lds (n : Nat) (os : List Int) : List Int := (List.range n).map (cnt os)
theorem lds_len (n : Nat) (os : List Int) : (lds n os).length = n := by simp [lds]
theorem hq_zero {w1 : World} {base g N : Nat} (h : w1.ownsRow base 3 1 (.slice (some ⟨g, 0, none⟩) N N) N (madeCells (Value.int .i64 0).cells (N * 1)).toList) : Hq w1 g N (fun q => q < N) (fun _ => 0) := by
  rcases h.2 with ⟨e, _⟩ | ⟨g', cap, cur, e, hb', hg, h1, h2, h3, h4⟩
  · cases e
  · cases e
    refine ⟨cur, hg, by omega, fun q hq => ?_⟩
    have hj : (madeCells (Value.int .i64 0).cells (N * 1)).toList[q]? = some (.int .i64 0) := by simp [madeCells, Value.cells, hq, Nat.mod_one]
    rw [← h4, List.getElem?_take_of_lt (by omega)] at hj
    simpa using hj
theorem Hq.ext {w : World} {g N : Nat} {D : Nat → Prop} {f f' : Nat → Int} (h : Hq w g N D f) (e : ∀ q, D q → f q = f' q) : Hq w g N D f' := by
  obtain ⟨cur, p1, p2, p3⟩ := h.mem
  exact ⟨cur, p1, p2, fun q hq => by rw [p3 q hq, e q hq]⟩
end Go.Proofs.YtbifmcadllilhaaGreat.Pn
namespace Go.Proofs.YtbifmcadllilhaaGreat.Rg
open Go.RowKit Go.Shelf Go.Sort
open Go.Proofs.YtbifmcadllilhaaGreat.It
set_option linter.unusedVariables false
theorem Ris.lt {o : List Int} (h : Ris o) : ∀ (d i : Nat) x y, o[i]? = some x → o[i + d + 1]? = some y → x < y
  | 0, i, x, y, hx, hy => h i x y hx hy
  | d + 1, i, x, y, hx, hy => by
    obtain ⟨z, hz⟩ : ∃ z, o[i + d + 1]? = some z := ⟨_, List.getElem?_eq_getElem (by have := (List.getElem?_eq_some_iff.1 hy).1; omega)⟩
    have h1 := Ris.lt h d i x z hx hz
    have h2 := h (i + d + 1) z y hz hy
    omega
theorem Ris.le {o : List Int} (h : Ris o) {i j : Nat} {x y : Int} (hij : i ≤ j) (hx : o[i]? = some x) (hy : o[j]? = some y) : x ≤ y := by
  rcases Nat.lt_or_ge i j with hl | hl
  · obtain ⟨d, rfl⟩ : ∃ d, j = i + d + 1 := ⟨j - i - 1, by omega⟩
    have := h.lt d i x y hx hy
    omega
  · obtain rfl : i = j := by omega
    rw [hx] at hy
    cases hy
    exact Int.le_refl _
theorem own_dn {w : World} {B e size n : Nat} {v : Value} {xs : List Value} (h : w.ownsRow B e size v n xs) (q : Nat) : (w.drewN q).ownsRow B e size v n xs := h
theorem box2 {w w1 : World} {b : Nat} {c : Array Value} {ty : TypeId} (h : w.heap[b]? = some (.cells c ty (0, 0))) (k : Kp Nu w w1) : w1.heap[b]? = some (.cells c ty (0, 0)) := (k.block b (blk_lt h) (fun h => h)).trans h
end Go.Proofs.YtbifmcadllilhaaGreat.Rg
namespace Go.Proofs.YtbifmcadllilhaaGreat.Rg
open Go.RowKit Go.Shelf Go.Sort
open Go.Proofs.YtbifmcadllilhaaGreat.It
set_option linter.unusedVariables false
theorem Sgs.rz {w : World} {u : Value} {M : List Sg} (h : Sgs w u M) : Rz w u M := by
  rcases h with ⟨⟨ad, cap, rfl⟩, rfl⟩ | ⟨b, off, cap, rfl, h3⟩
  · exact .inl ⟨rfl, ad, cap, rfl⟩
  · exact .inr ⟨b, off, cap, rfl, fun i s hs => ⟨(h3 i s hs).c0, (h3 i s hs).c1, (h3 i s hs).c2⟩⟩
theorem Sgs.sgb {w : World} {u : Value} {M : List Sg} (h : Sgs w u M) : ∀ s ∈ M, SgB s := fun s hs => by
  obtain ⟨i, hi⟩ := List.getElem?_of_mem hs
  rcases h with ⟨_, rfl⟩ | ⟨b, off, cap, _, h3⟩
  · cases hs
  · have f := (h3 i s hi).fit
    exact ⟨f.1, f.2.1, f.2.2.1, f.2.2.2.1, f.2.2.2.2.1, f.2.2.2.2.2⟩
theorem Sgs.nu {w w' : World} {u : Value} {M : List Sg} (h : Sgs w u M) (k : Kp Nu w w') : Sgs w' u M := by
  rcases h with h | ⟨b, off, cp, h0, h3⟩
  · exact .inl h
  · exact .inr ⟨b, off, cp, h0, fun i s hs => ⟨cell_nu (h3 i s hs).c0 k, cell_nu (h3 i s hs).c1 k, cell_nu (h3 i s hs).c2 k, (h3 i s hs).fit⟩⟩
/-- the segments make a table -/
def Ldd (M : List Sg) : Prop := Lok M M.length ∧ endF (lays [] M) = true ∧ ((lays [] M).length : Int) ≤ 8192
/-- a layout that may be -/
def LayB (n : Int) (M : List Sg) (ks : List Int) : Prop := Ldd M ∧ (∀ s ∈ lays [] M, s.h < n) ∧ Ris ks
/-- what the document's layout answers -/
def LyR (w w' : World) (n : Int) (M : List Sg) (ks : List Int) (e : Ending) : Prop := ∃ L v b, e = .returned (.tuple #[.agg #[.int .i64 L, v], .bool b]) ∧ (∃ ad m cp, v = .slice ad m cp) ∧ (b = true ↔ LayB n M ks) ∧ (b = true → w'.ownsRow w.heap.size 38 3 v (lays [] M).length (cells (lays [] M))) ∧ Kp Nu w w'
theorem lrt_iff {w w' : World} {M : List Sg} {p : Value} {c : Int} (h : Lrt w w' 8192 M p c) : c = 0 ↔ Ldd M := by
  rcases h with ⟨h0, _⟩ | ⟨_, i, h1⟩
  · exact absurd (by omega) h0
  · rcases h1 with ⟨_, k, s, g1, g2, g3, g4, _⟩ | ⟨_, g1, _, g2⟩ | ⟨g0, _, g1, g2, g3, _⟩
    · exact ⟨fun e => absurd e g4, fun e => (lok_no e.1 (List.getElem?_eq_some_iff.1 g2).1 g2 (by rw [g3]; exact g4)).elim⟩
    · refine ⟨fun e => by omega, fun e => ?_⟩
      rcases g2 with ⟨_, g2⟩ | ⟨_, _, g2⟩
      · rw [e.2.1] at g2; cases g2
      · have := e.2.2; omega
    · exact ⟨fun _ => ⟨g1, g2, g3⟩, fun _ => g0⟩
theorem rrs_iff {w w' : World} {M : List Sg} {L : Int} {v : Value} {f : Int} (h : Rrs w w' 8192 M L v f) : f = 0 ↔ Ldd M := by
  rcases h with ⟨h0, _⟩ | ⟨_, p, f', h1, h2, _⟩
  · exact absurd (by omega) h0
  · subst h2
    unfold refC
    rcases h1 with ⟨k, s, g1, g2, g3, g4, _⟩ | ⟨g1, g2, g3, _⟩ | ⟨g0, g1, g2, _⟩
    · rw [if_pos g4]
      exact ⟨fun e => absurd e g4, fun e => (lok_no e.1 (List.getElem?_eq_some_iff.1 g2).1 g2 (by rw [g3]; exact g4)).elim⟩
    · rw [if_pos (by omega)]
      exact ⟨fun e => by omega, fun e => by rw [e.2.1] at g3; cases g3⟩
    · rw [if_neg (by omega)]
      refine ⟨fun e => ⟨g1, g2, ?_⟩, fun e => by rw [if_neg (by have := e.2.2; omega)]⟩
      split at e
      · omega
      · omega
end Go.Proofs.YtbifmcadllilhaaGreat.Rg
namespace Go.Proofs.YtbifmcadllilhaaGreat.Rg
open Go.RowKit Go.Shelf Go.Sort
open Go.Proofs.YtbifmcadllilhaaGreat.It
set_option linter.unusedVariables false
/-- what Loads answers -/
def LoR (w w' : World) (n : Int) (M : List Sg) (ks : List Int) (v : Value) (c : Int) : Prop :=
  (¬ (1 ≤ n ∧ n ≤ 16) ∧ v = .slice none 0 0 ∧ c = 2) ∨ ((1 ≤ n ∧ n ≤ 16) ∧ ¬ LayB n M ks ∧ v = .slice none 0 0 ∧ c = 151) ∨
  ((1 ≤ n ∧ n ≤ 16) ∧ LayB n M ks ∧ c = 0 ∧ ∃ N : Nat, n = (N : Int) ∧ w'.ownsRow w.heap.size 3 1 v N (Pn.ics (Pn.lds N (ks.map (ow (lays [] M))))))
theorem Rs.of_own {w : World} {B : Nat} {v : Value} {T : List Sg} (h : w.ownsRow B 38 3 v T.length (cells T)) (hT : 0 < T.length) : Rs w v T := rs_of_own h hT
theorem ow_nn {L : List Sg} (h : Tab L) {k : Int} (h0 : 0 ≤ k) (h1 : k < 18446744073709551616) : 0 ≤ ow L k := by
  obtain ⟨s, hs, _, _, e, _⟩ := plc_facts h.cov h0 h1
  rw [← e]
  exact (h.hs s (List.mem_of_getElem? hs)).1
end Go.Proofs.YtbifmcadllilhaaGreat.Rg
