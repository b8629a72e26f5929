import Derived.Test.YtcbonbeogdgogaaLrB
import Derived.StillTailTactics
namespace Go.Proofs.Ytcbonbeogdgogaa.Li
open Go.RowKit
set_option linter.unusedVariables false
theorem info3z : (Try.prog.info? 3).map (fun i => (i.zero, i.size, i.bytes)) = some (some (.int .i64 0), 1, 8) := by kernel_rfl
theorem ints_snoc (o : List Nat) (k : Nat) : ints (o ++ [k]) = ints o ++ [.int .i64 (k : Int)] := by simp [ints]
theorem ints_len (o : List Nat) : (ints o).length = o.length := by simp [ints]
/-- a row of one's own without its last -/
theorem own_cut {w : World} {P : Nat} {g cap : Nat} {o : List Nat} {k : Nat} (h : w.ownsRow P 3 1 (.slice (some ⟨g, 0, none⟩) (o.length + 1) cap) (o.length + 1) (ints (o ++ [k]))) : w.ownsRow P 3 1 (.slice (some ⟨g, 0, none⟩) o.length cap) o.length (ints o) := by
  refine ⟨by rw [ints_len]; omega, .inr ?_⟩
  rcases h.2 with ⟨h1, _⟩ | ⟨g', cap', cur, h1, hb, hg, h2, h3, h4, h5⟩
  · cases h1
  · simp only [Value.slice.injEq, Option.some.injEq, Addr.mk.injEq, and_true, true_and] at h1
    obtain ⟨rfl, rfl⟩ := h1
    refine ⟨g, cap, cur, rfl, hb, hg, by omega, h3, h4, ?_⟩
    have := congrArg (List.take (o.length * 1)) h5
    rw [List.take_take, Nat.min_eq_left (by omega), ints_snoc, List.take_append_of_le_length (by rw [ints_len]; omega)] at this
    rw [this, List.take_of_length_le (by rw [ints_len]; omega)]
theorem De.kp {w w' : World} {bd : Nat} {D : Sch} {dd : Nat → Nat} (h : De w bd D dd) (hk : w'.heap[bd]? = w.heap[bd]?) : De w' bd D dd := by
  obtain ⟨cur, h1, h2⟩ := h.at_
  exact ⟨⟨cur, hk.trans h1, h2⟩, h.lt, h.no⟩
theorem De.cell {w : World} {bd : Nat} {D : Sch} {dd : Nat → Nat} (h : De w bd D dd) {st : Nat} (hs : st < 2 ^ D.n) : w.cell? ⟨bd, st, none⟩ = some (.int .u32 (dd st : Int)) ∧ w.frozen? ⟨bd, st, none⟩ = false := by
  obtain ⟨cur, h1, h2⟩ := h.at_
  exact ⟨by simp [World.cell?, h1, h2 st hs], free3 h1 st⟩
theorem De.set {w : World} {bd : Nat} {D : Sch} {dd : Nat → Nat} (h : De w bd D dd) {st i : Nat} (hs : st < 2 ^ D.n) (hi : i < 17) (hno : ¬ Can D st i) : De (w.setCell ⟨bd, st, none⟩ (.int .u32 ((dd st ||| 2 ^ i : Nat) : Int))) bd D (fun x => if x = st then dd st ||| 2 ^ i else dd x) := by
  obtain ⟨cur, h1, h2⟩ := h.at_
  refine ⟨⟨_, set3 h1 st _, fun x hx => ?_⟩, fun x hx => ?_, fun x j hx hb => ?_⟩
  · by_cases e : x = st
    · subst e
      have hl : x < cur.size := by
        have := h2 x hs
        rcases Nat.lt_or_ge x cur.size with hlt | hge
        · exact hlt
        · rw [Array.getElem?_eq_none hge] at this; cases this
      simp [hl]
    · have e' : st ≠ x := fun q => e q.symm
      rw [Array.getElem?_setIfInBounds_ne e', h2 x hx, if_neg e]
  · by_cases e : x = st
    · simp only [e, if_true]
      have h3 := h.lt st hs
      exact Nat.or_lt_two_pow (n := 17) h3 (Nat.pow_lt_pow_right (by decide) hi)
    · simp only [e, if_false]
      exact h.lt x hx
  · by_cases e : x = st
    · subst e
      simp only [if_true, put_bit, Bool.or_eq_true, decide_eq_true_eq] at hb
      rcases hb with hb | hb
      · exact h.no x j hs hb
      · subst hb
        exact hno
    · simp only [e, if_false] at hb
      exact h.no x j hx hb
theorem own_ge {w : World} {B e size n : Nat} {v : Value} {xs : List Value} (h : w.ownsRow B e size v n xs) {g : Nat} (hg : v.ownBlock = some g) : B ≤ g := by
  rcases h.2 with ⟨rfl, h0⟩ | ⟨g', cap, cur, rfl, hb', hg', _⟩
  · cases hg
  · simp [Value.ownBlock] at hg
    omega
theorem Sr.hi {w w' : World} {P b bd : Nat} {D : Sch} {sa fa : Option Addr} {cS cF : Nat} {o : List Nat} {ao : Option Addr} {co : Nat} {dd : Nat → Nat} (h : Sr w P b bd D sa fa cS cF o ao co dd) (k : Kp (fun x => P ≤ x) w w') :
    w'.heap[b]? = some (.cells #[.slice sa D.n cS, .slice fa D.n cF, .int .u32 (D.must : Int), .slice (some ⟨bd, 0, none⟩) (2 ^ D.n) (2 ^ D.n), .slice ao o.length co] 94 (0, 0)) ∧ Fx w' P b bd D sa fa ∧ De w' bd D dd := by
  have hne := h.ne
  obtain ⟨cur, hcur, _⟩ := h.de.at_
  exact ⟨(k.block b (blk_lt h.box) (by omega)).trans h.box, h.fx.kp (k.mono (fun i hi e => .inr (.inr e))), h.de.kp (k.block bd (blk_lt hcur) (by omega))⟩
/-- the order is set -/
theorem Sr.put {w w' : World} {P b bd : Nat} {D : Sch} {sa fa : Option Addr} {cS cF : Nat} {o o' : List Nat} {ao a' : Option Addr} {co c' : Nat} {dd : Nat → Nat} (h : Sr w P b bd D sa fa cS cF o ao co dd) (k : Kp (fun x => P ≤ x) w w') (ho : w'.ownsRow P 3 1 (.slice a' o'.length c') o'.length (ints o')) :
    Sr (w'.setCell ⟨b, 4, none⟩ (.slice a' o'.length c')) P b bd D sa fa cS cF o' a' c' dd := by
  obtain ⟨hb, hf, hd⟩ := h.hi k
  have hne := h.ne
  have k2 := Kp.setCell w' ⟨b, 4, none⟩ (.slice a' o'.length c')
  obtain ⟨cur, hcur, _⟩ := hd.at_
  refine ⟨set3 hb 4 _, hf.kp (k2.mono (fun i hi e => .inl e)), hd.kp (k2.block bd (blk_lt hcur) (fun e => hne.1 e.symm)), own_keep ho (fun g hg => k2.block g (own_lt ho hg) (fun e => ?_)), hne⟩
  have := own_ge ho hg
  have e : g = b := e
  omega
theorem Sr.nu {w w' : World} {P b bd : Nat} {D : Sch} {sa fa : Option Addr} {cS cF : Nat} {o : List Nat} {ao : Option Addr} {co : Nat} {dd : Nat → Nat} (h : Sr w P b bd D sa fa cS cF o ao co dd) (k : Kp Nu w w') : Sr w' P b bd D sa fa cS cF o ao co dd := by
  obtain ⟨hb, hf, hd⟩ := h.hi (k.mono (fun i hi e => e.elim))
  exact ⟨hb, hf, hd, own_keep h.own (fun g hg => k.block g (own_lt h.own hg) (fun e => e)), h.ne⟩
theorem kp_drawn (w : World) : Kp Nu w w.drew := ⟨rfl, rfl, rfl, Nat.le_refl _, fun _ _ _ => rfl⟩
theorem bit_orm {st k : Nat} (hs : st < 4294967296) (hk : k < 32) : bits .or .u32 (st : Int) (2 ^ k % 4294967296) = ((st ||| 2 ^ k : Nat) : Int) := by
  have h : (2 : Nat) ^ k < 4294967296 := Nat.lt_of_lt_of_le (Nat.pow_lt_pow_right (by decide) hk) (by decide)
  have e : ((2 : Int) ^ k) % 4294967296 = 2 ^ k := by
    have e1 : ((2 : Int) ^ k) = ((2 ^ k : Nat) : Int) := by simp
    rw [e1]
    generalize (2 : Nat) ^ k = x at h
    omega
  rw [e]
  exact bit_or hs hk
/-- where the round of the calls stands -/
structure Cl (w wr : World) (P b bd : Nat) (D : Sch) (sa fa : Option Addr) (cS cF : Nat) (o : List Nat) (ao : Option Addr) (co : Nat) (dd : Nat → Nat) (st at_ i : Nat) : Prop where
  sr : Sr wr P b bd D sa fa cS cF o ao co dd
  kp : Kp (Sx P b bd) w wr
  psz : P ≤ wr.heap.size
  no : ∀ j, j < i → D.may st j → ∀ a, D.T j at_ = some a → ¬ Can D (st ||| 2 ^ j) a
/-- what complete answers -/
def Cmp (w w' : World) (P b bd : Nat) (D : Sch) (sa fa : Option Addr) (cS cF : Nat) (o : List Nat) (st at_ : Nat) (e : Ending) : Prop :=
  ∃ r : Bool, e = .returned (.bool r) ∧ ∃ o' ao co dd, Sr w' P b bd D sa fa cS cF (o ++ o') ao co dd ∧ Kp (Sx P b bd) w w' ∧ (r = true → Fir D st at_ o') ∧ (r = false → o' = [] ∧ ¬ Can D st at_)
set_option maxRecDepth 100000 in
set_option maxHeartbeats 1500000 in
theorem complete62 {P b bd : Nat} {D : Sch} (hD : D.Ok) {sa fa : Option Addr} {cS cF : Nat} : ∀ (f st : Nat), 2 ^ D.n ≤ st + f → ∀ (w : World) (at_ : Nat) (o : List Nat) (ao : Option Addr) (co : Nat) (dd : Nat → Nat), st < 2 ^ D.n → at_ < D.m → o.length ≤ st → P ≤ w.heap.size → Sr w P b bd D sa fa cS cF o ao co dd →
    Calls Try.prog 62 #[.pointer (some ⟨b, 0, none⟩), .int .u32 (st : Int), .int .i64 (at_ : Int)] w fun e w' => Cmp w w' P b bd D sa fa cS cF o st at_ e := by
  have mixed : Try.prog.follows .mixedOrders = true := by kernel_rfl
  obtain ⟨i0, hiT, hz0, hz1, hz2⟩ := info_parts info3z
  intro f
  induction f with
  | zero => intro st h1 w at_ o ao co dd h2; omega
  | succ f ih =>
  intro st hf w at_ o ao co dd hst hat hol hP h
  obtain ⟨N, eN⟩ : ∃ N, 2 ^ D.n = N := ⟨_, rfl⟩
  obtain ⟨c0, _, c2, c3, _⟩ := must_cell h
  obtain ⟨cd, _⟩ := h.de.cell hst
  have hn := hD.n16
  have h16 := two16 hn
  have hm17 := hD.m17
  have hmu := hD.must
  have hdd := h.de.lt st hst
  have hs0 : (0 : Int) ≤ (st : Int) := by omega
  have hsN : (st : Int) < (N : Int) := by omega
  have hN16 : (N : Int) ≤ 65536 := by omega
  have ha0 : (0 : Int) ≤ (at_ : Int) := by omega
  have ha32 : (at_ : Int) ≤ 32 := by omega
  have ham : (at_ : Int) < (D.m : Int) := by omega
  have ets : (st : Int).toNat = st := by omega
  have eta : (at_ : Int).toNat = at_ := by omega
  have hnI : (D.n : Int) ≤ 16 := by omega
  have e1 := u32_andNot_nat D.must st (by omega) (by omega)
  rw [eN] at c3
  have HH := hide (And.intro hf (And.intro hst (And.intro hat (And.intro hol (And.intro hP (And.intro h eN))))))
  have HD := hide hD
  have HI := hide ih
  have HSU := hide (sub_iff (a := D.must) (b := st) (by omega) (by omega))
  clear ih hD hf hst hat hol hP h hmu eN
  by_cases hmust : D.must &&& (4294967295 - st) = 0
  · have ex : (((D.must &&& (4294967295 - st) : Nat) : Int) == 0) = true := by rw [hmust]; rfl
    have HM := hide hmust
    clear hmust
    go_enter Try.func62, Try.ntmps62
    go_wp2
    go_ret
    exact ⟨true, rfl, [], ao, co, dd, by rw [List.append_nil]; exact HH.out.2.2.2.2.2.1, Kp.refl _ _, fun _ => .done (HSU.out.1 HM.out), fun h => by cases h⟩
  · have ex : (((D.must &&& (4294967295 - st) : Nat) : Int) == 0) = false := by simpa using hmust
    have HM : Hid (¬ subs D.must st) := hide (fun q => hmust (HSU.out.2 q))
    clear hmust
    by_cases hdead : (dd st).testBit at_ = true
    · have e2 : bits .and .u32 ((dd st : Int) / 2 ^ at_) 1 = 1 := by rw [bit_and (by omega) (by omega), if_pos hdead]
      have HX := hide hdead
      clear hdead
      go_enter Try.func62, Try.ntmps62
      go_wp2
      go_ret
      exact ⟨false, rfl, [], ao, co, dd, by rw [List.append_nil]; exact HH.out.2.2.2.2.2.1, Kp.refl _ _, (fun q => by cases q), fun _ => ⟨rfl, HH.out.2.2.2.2.2.1.de.no st at_ HH.out.2.1 HX.out⟩⟩
    · have e2 : bits .and .u32 ((dd st : Int) / 2 ^ at_) 1 = 0 := by rw [bit_and (by omega) (by omega), if_neg hdead]
      clear hdead
      have H0 : Hid (Cl w w P b bd D sa fa cS cF o ao co dd st at_ 0) := hide ⟨HH.out.2.2.2.2.2.1, Kp.refl _ _, HH.out.2.2.2.2.1, fun j hj => by omega⟩
      go_enter Try.func62, Try.ntmps62
      go_wp2
      clear e2 cd c0 c2 c3 hdd
      go_loopw [31] (fun iv wr => ∃ (i : Nat) (a1 : Option Addr) (p1 : Nat) (d1 : Nat → Nat), iv = .int .i64 (i : Int) ∧ i ≤ D.n ∧ Hid (Cl w wr P b bd D sa fa cS cF o a1 p1 d1 st at_ i)) (fun iv _ => D.n - (intOf iv).toNat)
      case atStart => exact ⟨0, ao, co, dd, rfl, Nat.zero_le _, H0⟩
      case round =>
        clear H0
        obtain ⟨i, a1, p1, d1, rfl, hi, hI⟩ := hrel
        have hi0 : (0 : Int) ≤ (i : Int) := by omega
        have eti : (i : Int).toNat = i := by omega
        by_cases hlt : i < D.n
        · have hltI : (i : Int) < (D.n : Int) := by omega
          have hi32 : (i : Int) ≤ 32 := by omega
          have MF := mayFollow90 wr hI.out.sr HD.out i st hlt HH.out.2.1
          obtain ⟨c0, _, _, _, c4⟩ := must_cell hI.out.sr
          obtain ⟨g, hsa, hFg, ta, tc, cg, hFt, ct⟩ := hI.out.sr.fx.steps i hlt
          have cta := ct at_ HH.out.2.2.1
          subst hsa
          clear ct
          go_wp2_with fail
          refine MF.mono ?_; rintro e w1 ⟨⟨bb, rfl, hbb⟩, hw⟩
          subst hw
          have HB := hide hbb
          clear hbb
          cases bb with
          | false =>
            go_wp2
            refine ⟨⟨i + 1, a1, p1, d1, by go_num, by omega, hide ⟨hI.out.sr, hI.out.kp, hI.out.psz, fun j hj hm a ha => ?_⟩⟩, by simp [intOf]; omega⟩
            by_cases ej : j = i
            · subst ej
              exact absurd (HB.out.2 hm) (by simp)
            · exact hI.out.no j (by omega) hm a ha
          | true =>
            have HB2 : Hid (D.may st i) := hide (HB.out.1 rfl)
            clear HB
            cases hT : D.T i at_ with
            | none =>
              have et : enc (D.T i at_) = -1 := by rw [hT]; rfl
              have HT := hide hT
              clear hT
              rw [et] at cta
              go_wp2
              refine ⟨⟨i + 1, a1, p1, d1, by go_num, by omega, hide ⟨hI.out.sr, hI.out.kp, hI.out.psz, fun j hj hm a ha => ?_⟩⟩, by simp [intOf]; omega⟩
              by_cases ej : j = i
              · subst ej
                rw [HT.out] at ha
                cases ha
              · exact hI.out.no j (by omega) hm a ha
            | some a =>
              have et : enc (D.T i at_) = (a : Int) := by rw [hT]; rfl
              have HT := hide hT
              rw [et] at cta
              have hne : ((a : Int) == -1) = false := by simp
              clear hT et
              have hol : o.length < 65536 := by have := HH.out.2.2.2.1; have := HH.out.2.1; have := two16 HD.out.n16; omega
              have hsz := hI.out.psz
              go_wp2_with (at_builtin; refine unhid ?_)
              refine wpList_append_lies _ rfl (.tmp 56) (.tmp 58) 39 rfl P 3 i0 _ 1 8 Try.underlying39 hiT hz0 hz1 hz2 rfl (by decide) (.slice a1 o.length p1) o.length (ints o) rfl (hI.out.sr.own.alloc _) ⟨w1.heap.size, 0, none⟩ 1 1 [.int .i64 (i : Int)] rfl rfl (World.news_of_block (heap_new w1 _)) (by simp [Value.oneCell']) (by decide) (by unfold maxLen; omega) (by omega) (by rw [World.size_alloc]; omega) _ rfl ?_
              intro g2 cap2 w2 hown hgrow hatt hlt2
              have k2 : Kp (fun x => P ≤ x) w1 w2 := (Kp.alloc w1 _ _).trans (Kp.of_grown hgrow) (fun x hx e => own_ge hI.out.sr.own e.symm)
              have ho2 : w2.ownsRow P 3 1 (.slice (some ⟨g2, 0, none⟩) (o ++ [i]).length cap2) (o ++ [i]).length (ints (o ++ [i])) := by
                rw [ints_snoc, List.length_append]
                exact hown
              have hS3 := hI.out.sr.put k2 ho2
              have elen : (o ++ [i]).length = o.length + 1 := by simp
              have hb2 := (hI.out.sr.hi k2).1
              have x4 := cellAt hb2 4 (v := .slice a1 o.length p1) rfl
              have f4 := free3 hb2 4
              rw [elen] at hS3
              obtain ⟨w3, e3⟩ : ∃ w3, w2.setCell ⟨b, 4, none⟩ (.slice (some ⟨g2, 0, none⟩) (o.length + 1) cap2) = w3 := ⟨_, rfl⟩
              rw [e3] at hS3
              have k3 : Kp (Sx P b bd) w1 w3 := by rw [← e3]; exact (k2.mono (fun x hx e => .inr (.inr e))).andSet _ _ (.inr (.inl rfl))
              have d0 := (must_cell hS3).1
              have d1' := hFg.cell k3 cg
              have d2' := hFt.cell k3 cta
              have H3 := hide (And.intro hS3 (And.intro (kp_drawn w3) k3))
              have eor := bit_orm (st := st) (k := i) (by omega) (by omega)
              have IH := HI.out (st ||| 2 ^ i) (by have := put_gt (st := st) (k := i) HB2.out.2.1; have := HH.out.1; omega) w3.drew a (o ++ [i]) (some ⟨g2, 0, none⟩) cap2 d1 (put_lt HH.out.2.1 hlt) (HD.out.t i at_ a hlt HH.out.2.2.1 HT.out) (by have := put_gt (st := st) (k := i) HB2.out.2.1; have := HH.out.2.2.2.1; omega) (Nat.le_trans hI.out.psz k3.size) (hS3.nu (kp_drawn w3))
              clear hown hgrow hatt hlt2 k2 ho2 hS3 hb2 k3 hFg hFt
              go_wp2
              go_still_tail 15, mixed
              go_wp2_with fail
              rw [eor]
              refine IH.mono ?_
              rintro e w5 ⟨r, rfl, o5, a5, c5, d5, hS5, hK5, hT5, hF5⟩
              cases r with
              | true =>
                have HR : Hid (Cmp w w5 P b bd D (some ⟨g, 0, none⟩) fa cS cF o st at_ (.returned (.bool true))) := hide ⟨true, rfl, i :: o5, a5, c5, d5, by rw [List.append_assoc] at hS5; exact hS5, ((hI.out.kp.trans H3.out.2.2 (fun _ _ e => e)).andNu H3.out.2.1).trans hK5 (fun _ _ e => e), fun _ => .step i a o5 HM.out HB2.out HT.out hI.out.no (hT5 rfl), fun q => by cases q⟩
                clear hS5 hK5 hT5 hF5
                go_wp2
                go_ret
                exact HR.out
              | false =>
                obtain ⟨rfl, hno⟩ := hF5 rfl
                rw [List.append_nil] at hS5
                obtain ⟨g5, ea5, hg5⟩ : ∃ g5, a5 = some ⟨g5, 0, none⟩ ∧ w5.ownsRow P 3 1 (.slice (some ⟨g5, 0, none⟩) (o.length + 1) c5) (o.length + 1) (ints (o ++ [i])) := by
                  have q := hS5.own
                  rw [elen] at q
                  obtain ⟨g5, cap5, h1, _, _⟩ := q.form (by omega)
                  simp only [Value.slice.injEq] at h1
                  obtain ⟨rfl, _, _⟩ := h1
                  exact ⟨g5, rfl, q⟩
                subst ea5
                have hcap : o.length + 1 ≤ c5 := by
                  rcases hg5.2 with ⟨h1, _⟩ | ⟨g', cap', cur, h1, _, _, h2, _⟩
                  · cases h1
                  · simp only [Value.slice.injEq] at h1
                    omega
                have hcapI : (o.length : Int) ≤ (c5 : Int) := by omega
                have hl0 : (0 : Int) ≤ (o.length : Int) := by omega
                have hl1 : (o.length : Int) ≤ 65536 := by omega
                have ewl : IntKind.i64.wrap (o.length : Int) = (o.length : Int) := by rw [IntKind.wrap_i64]; omega
                have etl : (o.length : Int).toNat = o.length := by omega
                have k6 : Kp (fun x => P ≤ x) w5 w5.drew := (kp_drawn w5).mono (fun _ _ e => e.elim)
                have hS7 := hS5.put k6 (own_keep (own_cut hg5) (fun g hg => rfl))
                have hb6 := hS5.box
                rw [elen] at hb6
                have y4 := cellAt hb6 4 (v := .slice (some ⟨g5, 0, none⟩) (o.length + 1) c5) rfl
                have z4 := free3 hb6 4
                obtain ⟨w7, e7⟩ : ∃ w7, World.setCell w5.drew ⟨b, 4, none⟩ (.slice (some ⟨g5, 0, none⟩) o.length c5) = w7 := ⟨_, rfl⟩
                rw [e7] at hS7
                have k7 : Kp (Sx P b bd) w5 w7 := by rw [← e7]; exact (k6.mono (fun x hx e => .inr (.inr e))).andSet _ _ (.inr (.inl rfl))
                have HC : Hid (Cl w w7 P b bd D (some ⟨g, 0, none⟩) fa cS cF o (some ⟨g5, 0, none⟩) c5 d5 st at_ (i + 1)) := hide ⟨hS7, (((hI.out.kp.trans H3.out.2.2 (fun _ _ e => e)).andNu H3.out.2.1).trans hK5 (fun _ _ e => e)).trans k7 (fun _ _ e => e), Nat.le_trans (Nat.le_trans (Nat.le_trans hI.out.psz H3.out.2.2.size) hK5.size) k7.size, fun j hj hm b hb => by
                  by_cases ej : j = i
                  · subst ej
                    rw [HT.out] at hb
                    cases hb
                    exact hno
                  · exact hI.out.no j (by omega) hm b hb⟩
                clear hS5 hK5 hT5 hF5 hno hg5 k6 hS7 hb6 k7
                go_wp2
                go_still_tail 14, mixed
                go_wp2
                exact ⟨⟨i + 1, _, _, _, by go_num, by omega, HC⟩, by simp [intOf]; omega⟩
        · have hge : ¬ (i : Int) < (D.n : Int) := by omega
          obtain rfl : i = D.n := by omega
          obtain ⟨_, _, _, c3, _⟩ := must_cell hI.out.sr
          obtain ⟨q1, q2⟩ := hI.out.sr.de.cell HH.out.2.1
          rw [HH.out.2.2.2.2.2.2] at c3
          have hdd := hI.out.sr.de.lt st HH.out.2.1
          have eor := bit_orm (st := d1 st) (k := at_) (by omega) (by omega)
          have hno : ¬ Can D st at_ := fun hc => by
            cases hc with
            | done h => exact HM.out h
            | step k a h1 h2 h3 => exact hI.out.no k h1.1 h1 a h2 h3
          have hne := hI.out.sr.ne
          have k2 : Kp (fun x => P ≤ x) wr wr.drew := (kp_drawn wr).mono (fun _ _ e => e.elim)
          obtain ⟨hb, hf, hd⟩ := hI.out.sr.hi k2
          have kS := Kp.setCell wr.drew ⟨bd, st, none⟩ (.int .u32 ((d1 st ||| 2 ^ at_ : Nat) : Int))
          have ho : wr.drew.ownsRow P 3 1 (.slice a1 o.length p1) o.length (ints o) := own_keep hI.out.sr.own (fun g hg => rfl)
          have HR : Hid (Cmp w (wr.drew.setCell ⟨bd, st, none⟩ (.int .u32 ((d1 st ||| 2 ^ at_ : Nat) : Int))) P b bd D sa fa cS cF o st at_ (.returned (.bool false))) := hide ⟨false, rfl, [], a1, p1, _, by
            rw [List.append_nil]
            exact ⟨(kS.block b (blk_lt hb) (fun e => hne.1 e)).trans hb, hf.kp (kS.mono (fun x hx e => .inr (.inl e))), hd.set HH.out.2.1 (by omega) hno, own_keep ho (fun g hg => kS.block g (own_lt ho hg) (fun e => by
              have := own_ge ho hg
              have e : g = bd := e
              omega)), hne⟩, (hI.out.kp.andNu (kp_drawn wr)).trans kS (fun x hx e => .inr (.inl e)), (fun q => by cases q), fun _ => ⟨rfl, hno⟩⟩
          clear hno k2 hb hf hd kS ho
          go_wp2
          go_still_tail 11, mixed
          go_wp2
          go_ret
          rw [eor]
          exact HR.out
end Go.Proofs.Ytcbonbeogdgogaa.Li
