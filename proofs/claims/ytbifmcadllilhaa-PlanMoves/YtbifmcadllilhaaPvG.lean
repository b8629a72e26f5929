import Derived.Test.YtbifmcadllilhaaPvF
namespace Go.Proofs.Ytbifmcadllilhaa.Rg
open Go.RowKit Go.Shelf Go.Sort
open Go.Proofs.Ytbifmcadllilhaa.It
set_option linter.unusedVariables false
theorem zero_row (f : Nat → Int) (N : Nat) : (madeCells (Value.int .i64 0).cells (N * 1)).toList = Pn.ics (fil f N 0) := by
  rw [fil_zero]
  unfold Pn.ics
  rw [List.map_replicate]
  simp only [madeCells, Value.cells]
  simp [Nat.mod_one, List.map_const']
/-- where the document's planning stands -/
structure DoI (w : World) (n : Nat) (L : List Sg) (ks : List Int) (most : Int) (B gb tb : Nat) (ov : Value) (wr : World) (i ln : Nat) (lv mv : Value) (ms : List Mv) (σ : Sig) (L' : List Sg) : Prop where
  stp : Stps ks most (sg0 n L ks) ms σ
  inv : Inv ks L' σ
  len : ms.length = i
  bnd : (i : Int) + Pn.sp σ.gv ≤ (ks.length : Int)
  fit : ∀ m ∈ ms, MvB m
  row : wr.ownsRow B 59 5 mv i (cellsMs ms)
  dm : Dm B gb tb n ov σ.gv σ.tk (ks.map (ow L')) wr
  sgs : wr.ownsRow B 82 3 lv ln (cells L')
  ll : L'.length = ln
  l8 : ln ≤ 8192 + 2 * i
  kp : Kp Nu w wr
  Bw : w.heap.size ≤ B
set_option maxRecDepth 100000 in
set_option maxHeartbeats 4000000 in
theorem moves26 (w : World) (n most : Int) (u k : Value) (M : List Sg) (ks : List Int) (hM : Sgs w u M) (hlen : (M.length : Int) ≤ 5864062014634) (hk : Us w k ks) (hkl : ks.length ≤ 4096) (hkr : ∀ x ∈ ks, 0 ≤ x ∧ x < 18446744073709551616) :
    Calls Try.prog 26 #[.int .i64 n, u, k, .int .i64 most] w fun e w' => ∃ v c, e = .returned (.tuple #[v, .int .i64 c]) ∧ MoR w' n M ks most v c ∧ Kp Nu w w' := by
  have mixed : Try.prog.follows .mixedOrders = true := by kernel_rfl
  have LA := layout44 w n u k M ks hM hlen hk (by omega)
  obtain ⟨ad, cap, hu⟩ := hM.slice
  obtain ⟨a1, c1, rfl, _, _⟩ := id hk
  obtain ⟨N, eN⟩ : ∃ N, ks.length = N := ⟨_, rfl⟩
  have HU := hide (And.intro hM (And.intro hk (And.intro eN (And.intro hkl hkr))))
  rw [eN] at hkl LA ⊢
  have hNI : (N : Int) ≤ 4096 := by omega
  generalize M.length = NM at hu
  subst hu
  clear hM hk eN hlen hkr
  by_cases h1 : n < 1
  · have x1 : decide (n < 1) = true := by simpa using h1
    have H1 := hide h1
    clear h1 LA
    go_enter Try.func26, Try.ntmps26
    go_wp2
    go_ret2
    exact ⟨_, _, rfl, .inl ⟨fun h => by have := H1.out; omega, rfl, rfl⟩, Kp.refl _ _⟩
  have x1 : decide (n < 1) = false := by simpa using h1
  by_cases h2 : n > 16
  · have x2 : decide (n > 16) = true := by simpa using h2
    have H1 := hide h2
    clear h1 h2 LA
    go_enter Try.func26, Try.ntmps26
    go_wp2
    go_ret2
    exact ⟨_, _, rfl, .inl ⟨fun h => by have := H1.out; omega, rfl, rfl⟩, Kp.refl _ _⟩
  have x2 : decide (n > 16) = false := by simpa using h2
  by_cases h3 : most < 1
  · have x3 : decide (most < 1) = true := by simpa using h3
    have H1 := hide h3
    clear h1 h2 h3 LA
    go_enter Try.func26, Try.ntmps26
    go_wp2
    go_ret2
    exact ⟨_, _, rfl, .inl ⟨fun h => by have := H1.out; omega, rfl, rfl⟩, Kp.refl _ _⟩
  have x3 : decide (most < 1) = false := by simpa using h3
  by_cases h4 : most > 32
  · have x4 : decide (most > 32) = true := by simpa using h4
    have H1 := hide h4
    clear h1 h2 h3 h4 LA
    go_enter Try.func26, Try.ntmps26
    go_wp2
    go_ret2
    exact ⟨_, _, rfl, .inl ⟨fun h => by have := H1.out; omega, rfl, rfl⟩, Kp.refl _ _⟩
  have x4 : decide (most > 32) = false := by simpa using h4
  have HN : Hid ((1 ≤ n ∧ n ≤ 16) ∧ 1 ≤ most ∧ most ≤ 32) := hide (by omega)
  clear h1 h2 h3 h4
  go_enter Try.func26, Try.ntmps26
  go_wp2_with fail
  refine LA.mono ?_; rintro e w1 ⟨Lm, v, b, rfl, ⟨va, vl, vc, rfl⟩, hb, ho, hk1⟩
  have HL := hide (And.intro hb (And.intro ho hk1))
  clear LA hb ho hk1
  cases b with
  | false =>
    go_wp2
    go_ret2
    exact ⟨_, _, rfl, .inr (.inl ⟨HN.out, fun h => by simpa using HL.out.1.2 h, rfl, rfl⟩), HL.out.2.2.andAlloc _⟩
  | true =>
    have hLB := HL.out.1.1 rfl
    have hown := HL.out.2.1 rfl
    have tab := (lok_good hLB.1.1 hLB.1.2.1 HU.out.1.sgb).tab
    obtain ⟨T, eT⟩ : ∃ T, lays [] M = T := ⟨_, rfl⟩
    have hT8 := hLB.1.2.2
    rw [eT] at hown tab hT8
    obtain ⟨wA, hwA⟩ : ∃ wA, w1.alloc (.cells #[.int .i64 Lm, .slice va vl vc] 76) = wA := ⟨_, rfl⟩
    have kA : Kp Nu w1 wA := by rw [← hwA]; exact Kp.alloc _ _ _
    have bA : wA.heap[w1.heap.size]? = some (.cells #[.int .i64 Lm, .slice va vl vc] 76 (0, 0)) := by rw [← hwA]; exact heap_alloc_new w1 _
    have k2 := HL.out.2.2.andNu kA
    have hownA := own_keep hown (fun g e => kA.block g (own_lt hown e) (fun h => h))
    have rs := rs_of_own hownA (tab.ne)
    have OW := owners45 _ Lm (.slice va vl vc) T rs tab (by omega) _ ks (HU.out.2.1.nu k2) hLB.2.2 HU.out.2.2.2.2 (by have := HU.out.2.2.2.1; omega)
    rw [HU.out.2.2.1] at OW
    obtain ⟨y0, y1⟩ := cell2' bA
    have HT := hide (And.intro hLB (And.intro tab (And.intro eT (And.intro k2 (And.intro hownA (And.intro bA hT8))))))
    clear hLB hown tab eT hT8 k2 rs hownA kA bA
    go_wp2_with fail
    refine OW.mono ?_; rintro e w2 ⟨oa, oc, rfl, ho2, hk2⟩
    obtain ⟨n', hn'⟩ : ∃ n' : Nat, n = (n' : Int) := ⟨n.toNat, by have := HN.out; omega⟩
    obtain ⟨os, eos⟩ : ∃ os, ks.map (ow T) = os := ⟨_, rfl⟩
    have hosl : os.length = N := by rw [← eos, List.length_map, HU.out.2.2.1]
    rw [eos] at ho2
    have hos0 : ∀ x ∈ os, 0 ≤ x := fun x hx => by
        rw [← eos] at hx
        obtain ⟨y, hy, rfl⟩ := List.mem_map.1 hx
        have := HU.out.2.2.2.2 y hy
        exact ow_nn HT.out.2.1 this.1 this.2
    have CO := Pn.counted46 w2 n' (.slice oa N oc) os (by
      refine Pn.Ns.of_own (B := wA.heap.size) ?_
      rw [hosl]
      exact ho2) (by have := HN.out; omega) hos0 (by omega)
    have H2 := hide (And.intro (HT.out.2.2.2.1.andNu hk2) (And.intro hk2 (And.intro ho2 (And.intro eos hosl))))
    subst hn'
    clear OW ho2 hk2 hos0 eos hosl
    go_wp2_with fail
    refine CO.mono ?_; rintro e w3 ⟨lb, rfl, ho3, hk3⟩
    have hk3' := Kp.ofPn hk3
    obtain ⟨o, eo⟩ : ∃ o, Pn.lds n' os = o := ⟨_, rfl⟩
    have hol : o.length = n' := by rw [← eo, Pn.lds_len]
    rw [eo] at ho3
    have hob : ∀ x ∈ o, 0 ≤ x ∧ x ≤ 4096 := fun x hx => by
      rw [← eo] at hx
      obtain ⟨q, _, rfl⟩ := List.mem_map.1 hx
      have := Pn.cnt_le os q
      have := H2.out.2.2.2.2
      omega
    have hmb : Pn.MBL o := ⟨by have := HN.out; omega, by have := HN.out; omega, fun x hx => by have := hob x hx; omega⟩
    have TA := Pn.targets14 w3 (.slice (some ⟨lb, 0, none⟩) n' n') o (by
      refine Pn.Ns.of_own (B := w2.heap.size) ?_
      rw [hol]
      exact ho3) (by have := HN.out; omega)
    have H3 := hide (And.intro (H2.out.1.andNu hk3') (And.intro hk3' (And.intro ho3 (And.intro eo (And.intro hol (And.intro hob hmb))))))
    clear CO ho3 hk3 hk3' eo hob
    go_wp2_with fail
    refine TA.mono ?_; intro e w4 hTA
    rcases hTA with ⟨hno, _, _⟩ | ⟨_, ta, tc, rfl, ho4, hk4⟩
    · exact absurd hmb hno
    rw [hol] at ho4 ⊢
    have hk4' := Kp.ofPn hk4
    have H4 := hide (And.intro (H3.out.1.andNu hk4') (And.intro hk4' ho4))
    clear TA hmb hol ho4 hk4 hk4'
    obtain ⟨z0, hzi, hz0, hz1, hz2⟩ := info_parts Pn.info3z
    have hn1 : (n' : Int) ≤ 16 := by have := HN.out; omega
    have hn16 : n' ≤ 16 := by omega
    go_wp2_with (at_make; first
      | (refine wpList_make_full _ rfl _ _ 22 rfl w4.heap.size 3 z0 _ 1 Try.underlying22 hzi hz0 hz1 _ _ _ _ n' rfl rfl rfl rfl (by rw [hz2]; omega) (by unfold maxLen; omega) (Nat.le_refl _) ?_; intro w5 hrow5 hgr5)
      | (refine wpList_make_full _ rfl _ _ 22 rfl w5.heap.size 3 z0 _ 1 Try.underlying22 hzi hz0 hz1 _ _ _ _ n' rfl rfl rfl rfl (by rw [hz2]; omega) (by unfold maxLen; omega) (Nat.le_refl _) ?_; intro w6 hrow6 hgr6))
    obtain ⟨f, ef⟩ : ∃ f : Nat → Int, f = fun h => Pn.cnt os h - Pn.tgt o h := ⟨_, rfl⟩
    obtain ⟨f', ef'⟩ : ∃ f' : Nat → Int, f' = fun h => Pn.tgt o h - Pn.cnt os h := ⟨_, rfl⟩
    rw [zero_row f] at hrow5
    rw [zero_row f'] at hrow6
    have k56 : Kp Nu w5 w6 := (Kp.of_grown hgr6).mono (T := Nu) (fun _ _ e => by cases e)
    have k45 : Kp Nu w4 w5 := (Kp.of_grown hgr5).mono (T := Nu) (fun _ _ e => by cases e)
    have hgb := own_lt hrow5 (g := w4.heap.size) rfl
    have htb := own_lt hrow6 (g := w5.heap.size) rfl
    have k26 : Kp Nu w2 w6 := ((H3.out.2.1.andNu H4.out.2.1).andNu k45).andNu k56
    have kw6 : Kp Nu w w6 := H2.out.1.andNu k26
    obtain ⟨_, hk2, ho2, eos, hosl⟩ := H2.out
    have ho6 := own_keep ho2 (fun g e => k26.block g (own_lt ho2 e) (fun h => h))
    have hl36 := own_keep H3.out.2.2.1 (fun g e => ((H4.out.2.1.andNu k45).andNu k56).block g (own_lt H3.out.2.2.1 e) (fun h => h))
    have hw46 := own_keep H4.out.2.2 (fun g e => (k45.andNu k56).block g (own_lt H4.out.2.2 e) (fun h => h))
    have s24 := (H3.out.2.1.andNu H4.out.2.1).size
    have D0 : Dm w.heap.size w4.heap.size w5.heap.size n' (.slice oa N oc) (fil f n' 0) (fil f' n' 0) os w6 := by
      refine ⟨own_base (own_keep hrow5 (fun g e => k56.block g (own_lt hrow5 e) (fun h => h))) H4.out.1.size, own_base hrow6 (Nat.le_trans H4.out.1.size k45.size), ?_, fil_len _ _ _, fil_len _ _ _, by omega, fun g e => ?_⟩
      · rw [hosl]
        exact own_base ho6 (Nat.le_trans HT.out.2.2.2.1.size (Nat.le_refl _))
      · have := own_lt ho2 e
        omega
    have hlb : lb < w3.heap.size := own_lt H3.out.2.2.1 rfl
    have s34 := H4.out.2.1.size
    have hx1 : 1 ≤ n' := by have := HN.out; omega
    obtain ⟨wb, wc, ewb, _, _⟩ := row1_at (xs := Pn.ics (Pn.tgs o n')) (i := 0) (x := .int .i64 (Pn.tgt o 0)) (by
      have h := hw46
      have e : (Pn.ics (Pn.tgs o n')).length = n' := by rw [Pn.ics_len, Pn.tgs_len]
      rw [e]
      exact h) (by
      unfold Pn.ics Pn.tgs
      rw [List.map_map, List.getElem?_map, List.getElem?_range (by omega)]
      rfl)
    rw [Pn.ics_len, Pn.tgs_len] at ewb
    rw [ewb] at hw46
    have hwb : wb < w4.heap.size := own_lt H4.out.2.2 (g := wb) (by rw [ewb]; rfl)
    have H6 := hide (And.intro D0 (And.intro hl36 (And.intro hw46 (And.intro kw6 (And.intro k26 (And.intro eos (And.intro hosl (And.intro ef ef'))))))))
    cases ewb
    clear D0 hl36 hw46 kw6 k26 eos hosl ef ef' ho6 ho2 hk2 k45 k56 hrow5 hrow6 hgr5 hgr6
    go_loopw [18] (fun iv wr => ∃ i : Nat, iv = .int .i64 (i : Int) ∧ i ≤ n' ∧ Hid (Dm w.heap.size w4.heap.size w5.heap.size n' (.slice oa N oc) (fil f n' i) (fil f' n' i) os wr ∧ Kp (fun g => g = w4.heap.size ∨ g = w5.heap.size) w6 wr)) (fun iv _ => n' - (intOf iv).toNat)
    case atStart => exact ⟨0, rfl, Nat.zero_le _, hide ⟨H6.out.1, Kp.refl _ _⟩⟩
    case round =>
      obtain ⟨i, rfl, hi, hI⟩ := hrel
      have hi0 : (0 : Int) ≤ (i : Int) := by omega
      by_cases hlt : i < n'
      · have hltI : (i : Int) < (n' : Int) := by omega
        have eti : (i : Int).toNat = i := by omega
        obtain ⟨dm, kk⟩ := hI.out
        obtain ⟨_, hl36, hw46, _, _, _, _, ef, ef'⟩ := H6.out
        obtain ⟨_, _, _, eo, hol, hob, hmb⟩ := H3.out
        have ea : o[i]? = some (Pn.cnt os i) := by rw [← eo]; unfold Pn.lds; rw [List.getElem?_map, List.getElem?_range hlt]; rfl
        have eb : (Pn.tgs o n')[i]? = some (Pn.tgt o i) := by unfold Pn.tgs; rw [List.getElem?_map, List.getElem?_range hlt]; rfl
        have hsum := sum_up (b := 4096) (by omega) hob
        have hb0 := tgt_nonneg hsum.1 i
        have hb1 := tgt_up hsum.1 i
        have ha := hob _ (List.mem_of_getElem? ea)
        rw [hol] at hsum
        obtain ⟨a, eqa⟩ : ∃ a, Pn.cnt os i = a := ⟨_, rfl⟩
        obtain ⟨b, eqb⟩ : ∃ b, Pn.tgt o i = b := ⟨_, rfl⟩
        rw [eqa] at ea ha
        rw [eqb] at eb hb0 hb1
        have hbb : b ≤ 100000 := by omega
        have hlr := own_keep hl36 (w' := wr) (fun g e => kk.block g (own_lt hl36 e) (fun e2 => by have e3 : some lb = some g := e; cases e3; omega))
        have hwr := own_keep hw46 (w' := wr) (fun g e => kk.block g (own_lt hw46 e) (fun e2 => by have e3 : some wb = some g := e; cases e3; omega))
        have y1 := (num_at hlr hol ea).1
        have y2 := (num_at hwr (Pn.tgs_len _ _) eb).1
        obtain ⟨gi, hgi⟩ : ∃ x, (fil f n' i)[i]? = some x := ⟨_, List.getElem?_eq_getElem (by rw [fil_len]; exact hlt)⟩
        obtain ⟨ti, hti⟩ : ∃ x, (fil f' n' i)[i]? = some x := ⟨_, List.getElem?_eq_getElem (by rw [fil_len]; exact hlt)⟩
        obtain ⟨y3, y4⟩ := num_at dm.g dm.lg hgi
        have dm1 := dm.setG i (a - b) hlt
        have kG := Kp.setCell wr ⟨w4.heap.size, i, none⟩ (.int .i64 (a - b))
        have hlr1 := own_keep hlr (fun g e => kG.block g (own_lt hlr e) (fun e2 => by have e4 : g = w4.heap.size := e2; have e3 : some lb = some g := e; cases e3; omega))
        have hwr1 := own_keep hwr (fun g e => kG.block g (own_lt hwr e) (fun e2 => by have e4 : g = w4.heap.size := e2; have e3 : some wb = some g := e; cases e3; omega))
        have q1 := (num_at hlr1 hol ea).1
        have q2 := (num_at hwr1 (Pn.tgs_len _ _) eb).1
        obtain ⟨q3, q4⟩ := num_at dm1.t dm1.lt hti
        have dm2 := dm1.setT i (b - a) hlt
        have e1 : a - b = f i := by rw [ef, ← eqa, ← eqb]
        have e2 : b - a = f' i := by rw [ef', ← eqa, ← eqb]
        have w1x : IntKind.i64.wrap (a - b) = a - b := by rw [IntKind.wrap_i64]; omega
        have w2x : IntKind.i64.wrap (b - a) = b - a := by rw [IntKind.wrap_i64]; omega
        have hinb : i < n' := hlt
        have HD := hide (And.intro dm2 (And.intro kk (And.intro e1 e2)))
        clear dm kk hl36 hw46 ef ef' eo hol hob hmb ea eb hsum hb1 eqa eqb hlr hwr hgi hti dm1 kG hlr1 hwr1 dm2 e1 e2
        go_wp2_with fail
        go_region
        go_wp2_with fail
        go_region
        go_wp2
        refine ⟨⟨i + 1, by go_num, by omega, hide ⟨?_, ?_⟩⟩, by simp [intOf]; omega⟩
        · obtain ⟨dm2, kk, e1, e2⟩ := HD.out
          rw [e1, e2, fil_set f hinb, fil_set f' hinb] at dm2
          rw [e1, e2]
          exact dm2.nu ((Kp.refl Nu _).drew.drew)
        · obtain ⟨dm2, kk, e1, e2⟩ := HD.out
          exact ((kk.andSet ⟨w4.heap.size, i, none⟩ (.int .i64 (a - b)) (.inr (.inl rfl))).drew.andSet ⟨w5.heap.size, i, none⟩ (.int .i64 (b - a)) (.inr (.inr rfl))).drew
      · have hge : ¬ (i : Int) < (n' : Int) := by omega
        obtain rfl : n' = i := by omega
        obtain ⟨dm, kk⟩ := hI.out
        obtain ⟨_, _, _, kw6, k26, eos, hosl, ef, ef'⟩ := H6.out
        obtain ⟨hLB, tab, eT, k2, hownA, bA, hT8⟩ := HT.out
        obtain ⟨_, hk2, _⟩ := H2.out
        obtain ⟨_, _, _, eo, _, _, _⟩ := H3.out
        have hn := HN.out
        have bR : wr.heap[w1.heap.size]? = some (.cells #[.int .i64 Lm, .slice va vl vc] 76 (0, 0)) := (kk.block w1.heap.size (blk_lt (box2 (box2 bA hk2) k26)) (fun e => by
          have := blk_lt bA
          have := hk2.size
          have h1 : w1.heap.size = w4.heap.size ∨ w1.heap.size = w5.heap.size := e
          omega)).trans (box2 (box2 bA hk2) k26)
        obtain ⟨y0, y1⟩ := cell2' bR
        have sA6 := (hk2.andNu k26)
        have hsg6 := own_keep hownA (fun g e => sA6.block g (own_lt hownA e) (fun h => h))
        have hsgr := own_keep hsg6 (w' := wr) (fun g e => kk.block g (own_lt hsg6 e) (fun e2 => by
          have := own_lt hownA e
          have := hk2.size
          have h1 : g = w4.heap.size ∨ g = w5.heap.size := e2
          omega))
        have evl : T.length = vl := by
          obtain ⟨q1, q2, q3⟩ := own_slice hownA
          cases q3; rfl
        have kwr : Kp Nu w wr := kw6.trans kk (fun g hg e => by
          have := H4.out.1.size
          have h1 : g = w4.heap.size ∨ g = w5.heap.size := e
          omega)
        have D1 : DoI w n' T ks most w.heap.size w4.heap.size w5.heap.size (.slice oa N oc) wr 0 vl (.slice va vl vc) (.slice none 0 0) [] (sg0 n' T ks) T := by
          rw [fil_all, fil_all, ef, ef', ← eos, ← eo, ← eos] at dm
          refine ⟨.nil _, inv0 tab hLB.2.2 HU.out.2.2.2.2 (by omega) (by omega), rfl, ?_, (fun m hm => by cases hm), World.ownsRow_nil _ _ _ _, dm, ?_, evl, by omega, kwr, Nat.le_refl _⟩
          · have := sp0 n' T ks
            simpa using this
          · rw [evl] at hsgr
            exact hsgr
        have HD := hide D1
        clear dm kk kw6 k26 eos hosl ef ef' hLB tab eT k2 hownA bA hT8 hk2 eo hn bR sA6 hsg6 hsgr evl kwr D1
        go_wp2
        go_loopw [19, 20, 21] (fun lv mv iv wr => ∃ (i ln : Nat) (la ma : Option Addr) (lc mc : Nat), lv = .slice la ln lc ∧ mv = .slice ma i mc ∧ iv = .int .i64 (i : Int) ∧ i ≤ N ∧ Hid (∃ ms σ L', DoI w n' T ks most w.heap.size w4.heap.size w5.heap.size (.slice oa N oc) wr i ln (.slice la ln lc) (.slice ma i mc) ms σ L')) (fun _ _ iv _ => N + 1 - (intOf iv).toNat)
        case atStart => exact ⟨0, vl, va, none, vc, 0, rfl, rfl, rfl, Nat.zero_le _, hide ⟨_, _, _, HD.out⟩⟩
        case round =>
          obtain ⟨i, ln, la, ma, lc, mc, rfl, rfl, rfl, hi, hI⟩ := hrel
          obtain ⟨wl, rfl⟩ : ∃ wl : World, wl = wr := ⟨_, rfl⟩
          obtain ⟨ms, σ, L', hD⟩ := hI.out
          have hi0 : (0 : Int) ≤ (i : Int) := by omega
          have hleI : (i : Int) ≤ (N : Int) := by omega
          have G1 := Pn.greatest52 wl _ σ.gv (ns_of hD.dm.g hD.dm.lg) (by rw [hD.dm.lg]; omega)
          have HDD := hide hD
          clear hI hD HD
          go_wp2_with fail
          refine G1.mono ?_; rintro e wa ⟨r, rfl, hr, hka⟩
          have hka' := Kp.ofPn hka
          have dma := HDD.out.dm.nu hka'
          have G2 := Pn.greatest52 wa _ σ.tk (ns_of dma.t dma.lt) (by rw [dma.lt]; omega)
          have HA := hide (And.intro hr hka')
          clear G1 hr hka hka' dma
          go_wp2_with fail
          refine G2.mono ?_; rintro e wq ⟨r', rfl, hr', hkb⟩
          have HB := hide (And.intro hr' (HA.out.2.andNu (Kp.ofPn hkb)))
          clear G2 hr' hkb
          by_cases hr1 : r = -1
          · subst hr1
            go_wp2
            go_ret2
            have hD := HDD.out
            have hb := hD.bnd
            have hs := Pn.sp_nonneg σ.gv
            have h3 := HU.out.2.2.1
            refine ⟨_, _, rfl, .inr (.inr ⟨HN.out, HT.out.1, rfl, n', rfl, ms, σ, ?_, HA.out.1, ?_, by have := hD.len; omega⟩), hD.kp.andNu HB.out.2⟩
            · rw [HT.out.2.2.1]; exact hD.stp
            · refine (mvs_of_own (B := w.heap.size) ?_ hD.fit).nu HB.out.2
              rw [hD.len]
              exact hD.row
          · obtain ⟨g, x, er, xg, x0, _⟩ : ∃ (g : Nat) (x : Int), r = (g : Int) ∧ σ.gv[g]? = some x ∧ 0 < x ∧ True := by
              rcases HA.out.1 with ⟨e, _⟩ | ⟨g, x, e, h1, h2, _⟩
              · exact absurd e hr1
              · exact ⟨g, x, e, h1, h2, trivial⟩
            subst er
            have hD := HDD.out
            have hsx := Pn.sp_ge xg x0
            have hbal := hD.inv.bal
            obtain ⟨kk, y, er', xk, y0, _⟩ : ∃ (g : Nat) (x : Int), r' = (g : Int) ∧ σ.tk[g]? = some x ∧ 0 < x ∧ True := by
              rcases HB.out.1 with ⟨e, hall⟩ | ⟨g, x, e, h1, h2, _⟩
              · exfalso
                have := Pn.sp_none hall
                omega
              · exact ⟨g, x, e, h1, h2, trivial⟩
            subst er'
            have hsy := Pn.sp_ge xk y0
            have hbd := hD.bnd
            have hks := HU.out.2.2.1
            have hm := HN.out.2
            have dmq := hD.dm.nu HB.out.2
            have hgn : g < n' := by rw [← dmq.lg]; exact (List.getElem?_eq_some_iff.1 xg).1
            have hkn : kk < n' := by rw [← dmq.lt]; exact (List.getElem?_eq_some_iff.1 xk).1
            have y5 := (num_at dmq.g dmq.lg xg).1
            have y6 := (num_at dmq.t dmq.lt xk).1
            obtain ⟨nn, enn⟩ : ∃ nn : Nat, (nn : Int) = min (min x y) most := ⟨(min (min x y) most).toNat, by omega⟩
            obtain ⟨TT, z, sg, t1, t2, t3, t4, t5, t6, hst⟩ := doc_step hD.inv HT.out.1.2.2 HU.out.2.2.2.2 hm.1 HA.out.1 HB.out.1 xg xk enn
            have hsgq := own_keep hD.sgs (fun g e => HB.out.2.block g (own_lt hD.sgs e) (fun h => h))
            have hoq : wq.ownsRow w.heap.size 3 1 (.slice oa N oc) N (Pn.ics (ks.map (ow L'))) := by
              have h := dmq.o
              rw [List.length_map, hks] at h
              exact h
            have kwq := hD.kp.andNu HB.out.2
            have TK := taken53 wq (.slice la ln lc) (.slice a1 N c1) (.slice oa N oc) L' ks (ks.map (ow L')) (g : Int) nn TT z sg (Sgs.of_own (B := w.heap.size) (by rw [hD.ll]; exact hsgq) hD.inv.tab.sgb) hD.inv.tab (by have := hD.ll; have := hD.l8; omega) (by
              have h := HU.out.2.1.nu kwq
              rw [hks] at h
              exact h) (ns_of hoq (by rw [List.length_map, hks])) (by rw [List.length_map]) (by omega) t1 t2 t3 t4 t5 t6 (by omega) (by omega) (by omega) (by omega)
            have hTN : TT < N := by rw [← hks]; exact (List.getElem?_eq_some_iff.1 t3).1
            have HX := hide (And.intro xg (And.intro xk (And.intro t3 (And.intro hst (And.intro dmq (And.intro hsgq (And.intro kwq enn)))))))
            have hg0 : (0 : Int) ≤ (g : Int) := by omega
            have hk0 : (0 : Int) ≤ (kk : Int) := by omega
            have hgI : (g : Int) < (n' : Int) := by omega
            have hkI : (kk : Int) < (n' : Int) := by omega
            have etg : (g : Int).toNat = g := by omega
            have etk : (kk : Int).toNat = kk := by omega
            have hx4 : x ≤ 4096 := by omega
            have hy4 : y ≤ 4096 := by omega
            have hT0 : (0 : Int) ≤ (TT : Int) := by omega
            have hTI : (TT : Int) < (N : Int) := by omega
            have hk8 : IntKind.u8.wrap (kk : Int) = (kk : Int) := by rw [IntKind.wrap_u8]; omega
            have hn1x : 1 ≤ nn := by omega
            clear hD hsx hbal hsy hbd hm dmq xg xk t1 t2 t3 t4 t5 t6 hst hsgq hoq kwq hr1 hks
            by_cases c1 : x < most
            · have d1 : decide (x < most) = true := by simpa using c1
              by_cases c2 : y < x
              · have d2 : decide (y < x) = true := by simpa using c2
                rw [show (nn : Int) = y by omega] at TK
                have HC := hide (And.intro c1 c2)
                clear c1 c2 enn
                go_wp2_with fail
                refine TK.mono ?_; rintro e wc ⟨q, lo, rfl, hT, hkc⟩
                obtain ⟨wd, hwd⟩ : ∃ wd, wc.alloc (.cells #[.int .u8 (g : Int), .int .u8 (kk : Int), .int .u64 lo, .int .u64 sg.hi, .int .i64 (q : Int)] 59) = wd := ⟨_, rfl⟩
                have kd : Kp Nu wc wd := by rw [← hwd]; exact Kp.alloc _ _ _
                have bd : wd.heap[wc.heap.size]? = some (.cells #[.int .u8 (g : Int), .int .u8 (kk : Int), .int .u64 lo, .int .u64 sg.hi, .int .i64 (q : Int)] 59 (0, 0)) := by rw [← hwd]; exact heap_alloc_new wc _
                obtain ⟨v0, v1, v2, v3, v4⟩ := cell5 bd
                have kqd : Kp Nu wq wd := hkc.andNu kd
                have hD := HDD.out
                have hrowd : wd.ownsRow w.heap.size 59 5 (.slice ma i mc) i (cellsMs ms) := own_keep hD.row (fun g e => (HB.out.2.andNu kqd).block g (own_lt hD.row e) (fun h => h))
                have hrl : ∀ g, (Value.slice ma i mc).ownBlock = some g → g < wc.heap.size := fun g e => Nat.lt_of_lt_of_le (own_lt hD.row e) (HB.out.2.andNu hkc).size
                have hwds : w.heap.size ≤ wd.heap.size := (hD.kp.andNu (HB.out.2.andNu kqd)).size
                have HT2 := hide (And.intro hT (And.intro hkc (And.intro kd (And.intro bd (And.intro kqd (And.intro hrowd hrl))))))
                clear TK hT hkc kd bd kqd hD hrowd hrl
                obtain ⟨i0, hiT, hj0, hj1, hj2⟩ := info_parts info59
                go_wp2_with (at_builtin; refine unhid ?_)
                refine wpList_append_lies _ rfl _ _ 37 rfl w.heap.size 59 i0 _ 5 32 Try.underlying37 hiT hj0 hj1 hj2 rfl (by decide) (.slice ma i mc) i (cellsMs ms) rfl (HT2.out.2.2.2.2.2.1.alloc _) ⟨wd.heap.size, 0, none⟩ 1 1 [.int .u8 (g : Int), .int .u8 (kk : Int), .int .u64 lo, .int .u64 sg.hi, .int .i64 (q : Int)] (by first | rfl | (simp; done)) rfl (World.news_of_block (heap_alloc_new _ _)) (by simp [Value.oneCell']) (by decide) (by unfold maxLen; omega) (by omega) (by rw [World.size_alloc]; omega) _ rfl ?_
                intro g3 cap3 we hown7 hgrow7 hat7 hlt7
                obtain ⟨hT, hkc, kd, bd, kqd, hrowd, hrl⟩ := HT2.out
                have kA7 := Kp.alloc wd (.cells #[.int .u8 (g : Int), .int .u8 (kk : Int), .int .u64 lo, .int .u64 sg.hi, .int .i64 (q : Int)] 59) Nu
                have kg := Kp.of_grown hgrow7
                have hrowA := own_keep hrowd (fun g e => kA7.block g (own_lt hrowd e) (fun h => h))
                have be : we.heap[wc.heap.size]? = some (.cells #[.int .u8 (g : Int), .int .u8 (kk : Int), .int .u64 lo, .int .u64 sg.hi, .int .i64 (q : Int)] 59 (0, 0)) := (kg.block wc.heap.size (blk_lt (box2 bd kA7)) (fun e => by have := hrl _ e.symm; omega)).trans (box2 bd kA7)
                obtain ⟨xg, xk, t3, hst, dmq, hsgq, kwq, enn⟩ := HX.out
                have kqA := kqd.andNu kA7
                have dme := (dmq.nu kqA).oth kg (fun g e c hg => by
                  obtain ⟨cc, hcc⟩ := own_obj hrowA e.symm
                  rw [hg] at hcc
                  cases hcc)
                have hsgA := own_keep hsgq (fun g e => kqA.block g (own_lt hsgq e) (fun h => h))
                have hsge := own_keep hsgA (w' := we) (fun g e => kg.block g (own_lt hsgA e) (fun e2 => by
                  obtain ⟨cc, hcc⟩ := own_obj hrowA e2.symm
                  obtain ⟨cd, hcd⟩ := own_obj hsgA e
                  rw [hcd] at hcc
                  cases hcc))
                have kwe : Kp Nu w we := (kwq.andNu kqA).trans kg (fun g hg e => by have := (hrowd.lt g e.symm).1; omega)
                obtain ⟨σ', st, sgv, stk, hox⟩ := hst q lo hT
                have hD := HDD.out
                obtain ⟨inv', md⟩ := hD.inv.step HT.out.1.2.2 HU.out.2.2.2.2 HN.out.2.1 st
                have less := Stp.less hD.inv HT.out.1.2.2 HU.out.2.2.2.2 HN.out.2.1 st
                have hqT := hT.pT
                have hq1 := hT.p1
                have hqn := hT.pn
                have hlo0 : 0 ≤ lo := md.l0
                have hloh : lo ≤ sg.hi := md.lh
                have hhi1 : sg.hi < 18446744073709551616 := md.h1
                have hkk1 : (kk : Int) < 16 := md.t1
                have hown : Own L' lo sg.hi (g : Int) := md.own
                have hosl : (ks.map (ow L')).length = N := by rw [List.length_map, HU.out.2.2.1]
                obtain ⟨ob, oc', eob, hob1, _, curo, hobb⟩ := row1_at (xs := Pn.ics (ks.map (ow L'))) (v := .slice oa N oc) (B := w.heap.size) (w := we) (e := 3) (i := TT) (x := .int .i64 (ow L' z)) (by
                  have h := dme.o
                  rw [Pn.ics_len]
                  exact h) (by unfold Pn.ics; rw [List.map_map, List.getElem?_map, t3]; rfl)
                rw [Pn.ics_len, hosl] at eob
                simp only [Value.slice.injEq] at eob
                obtain ⟨eoa, _, eoc⟩ := eob
                subst eoa
                have obne : wc.heap.size ≠ ob := fun e => by rw [← e, be] at hobb; cases hobb
                have HE := hide (And.intro be (And.intro dme (And.intro hsge (And.intro kwe (And.intro inv' (And.intro md (And.intro less (And.intro sgv (And.intro stk (And.intro hox (And.intro hosl (And.intro hown7 (And.intro st (And.intro hown hobb))))))))))))))
                obtain ⟨v0, v1, v2, v3, v4⟩ := cell5 be
                clear hT hkc kd bd kqd hrowd hrl kA7 kg hrowA be xg xk t3 hst dmq hsgq kwq enn kqA dme hsgA hsge kwe sgv stk hox hD inv' md less hosl hown7 hgrow7 hat7 hlt7 hobb eoc st hown
                go_wp2
                go_loopw [27] (fun xv wx => ∃ j : Nat, xv = .int .i64 (j : Int) ∧ j ≤ q ∧ Hid (Dm w.heap.size w4.heap.size w5.heap.size n' (.slice (some ⟨ob, 0, none⟩) N oc) σ.gv σ.tk (osx (ks.map (ow L')) TT (kk : Int) j) wx ∧ Kp (fun g => g = ob) we wx)) (fun xv _ => q - (intOf xv).toNat)
                case atStart => exact ⟨0, rfl, Nat.zero_le _, hide ⟨HE.out.2.1, Kp.refl _ _⟩⟩
                case round =>
                  obtain ⟨j, rfl, hj, hJ⟩ := hrel
                  have hj00 : (0 : Int) ≤ (j : Int) := by omega
                  obtain ⟨dmx, kx⟩ := hJ.out
                  have bx : wr.heap[wc.heap.size]? = some (.cells #[.int .u8 (g : Int), .int .u8 (kk : Int), .int .u64 lo, .int .u64 sg.hi, .int .i64 (q : Int)] 59 (0, 0)) := (kx.block wc.heap.size (blk_lt HE.out.1) (fun e => obne e)).trans HE.out.1
                  obtain ⟨v0, v1, v2, v3, v4⟩ := cell5 bx
                  by_cases hjq : j < q
                  · have hjqI : (j : Int) < (q : Int) := by omega
                    have ew : IntKind.i64.wrap ((TT : Int) - (j : Int)) = (TT : Int) - (j : Int) := by rw [IntKind.wrap_i64]; omega
                    have e0 : (0 : Int) ≤ (TT : Int) - (j : Int) := by omega
                    have e1 : (TT : Int) - (j : Int) < (N : Int) := by omega
                    have e2 : ((TT : Int) - (j : Int)).toNat = TT - j := by omega
                    obtain ⟨xo, hxo⟩ : ∃ xo, (osx (ks.map (ow L')) TT (kk : Int) j)[TT - j]? = some xo := ⟨_, List.getElem?_eq_getElem (by rw [osx_len, HE.out.2.2.2.2.2.2.2.2.2.2.1]; omega)⟩
                    have hol : (osx (ks.map (ow L')) TT (kk : Int) j).length = N := by rw [osx_len, HE.out.2.2.2.2.2.2.2.2.2.2.1]
                    have ho := dmx.o
                    rw [hol] at ho
                    obtain ⟨z1, z2⟩ := num_at ho hol hxo
                    have dm2 := dmx.setO hol (TT - j) (kk : Int) (by omega)
                    have HJ := hide (And.intro dm2 kx)
                    clear dmx kx bx hxo hol ho dm2
                    go_wp2
                    exact ⟨⟨j + 1, by go_num, by omega, hide ⟨HJ.out.1, HJ.out.2.andSet _ _ (.inr rfl)⟩⟩, by simp [intOf]; omega⟩
                  · have hge : ¬ (j : Int) < (q : Int) := by omega
                    obtain rfl : q = j := by omega
                    obtain ⟨be, dme, hsge, kwe, inv', md, less, sgv, stk, hox, hosl, hown7, st, hown, hobb⟩ := HE.out
                    have hD := HDD.out
                    have hne3 : ∀ {g : Nat} {c : Array Value} {t : TypeId}, we.heap[g]? = some (.cells c t (0, 0)) → t ≠ 3 → ¬ (g = ob) := fun {g c t} hg ht e => by
                      rw [e, hobb] at hg
                      cases hg
                      exact ht rfl
                    have hsgx := own_keep hsge (w' := wr) (fun g e => by
                      obtain ⟨cc, hcc⟩ := own_obj hsge e
                      exact kx.block g (blk_lt hcc) (hne3 hcc (by decide)))
                    have hrowx := own_keep hown7 (w' := wr) (fun g e => by
                      obtain ⟨cc, hcc⟩ := own_obj hown7 e
                      exact kx.block g (blk_lt hcc) (hne3 hcc (by decide)))
                    have kwx : Kp Nu w wr := kwe.trans kx (fun g hg e => by have e2 : g = ob := e; omega)
                    have CU := cut40 wr (.slice la ln lc) L' lo sg.hi (kk : Int) (Sgs.of_own (B := w.heap.size) (by rw [hD.ll]; exact hsgx) hD.inv.tab.sgb) (by have := hD.ll; have := hD.l8; omega) ⟨hlo0, by omega⟩ ⟨by omega, hhi1⟩
                    rw [cut_asg hD.inv.tab hlo0 hloh hhi1 hk0 hkk1 hown] at CU
                    have hal := asg_len hD.inv.tab hlo0 hloh hhi1 hk0 hkk1
                    have HF := hide (And.intro dmx (And.intro bx (And.intro hrowx (And.intro kwx hal))))
                    clear be dme hsge kwe inv' md less sgv stk hox hosl hown7 st hown hobb hD hne3 hsgx hrowx kwx hal dmx kx bx
                    go_wp2_with fail
                    refine CU.mono ?_; rintro e wy ⟨u', rfl, hu, hky⟩
                    obtain ⟨ua, uc, rfl⟩ := own_slice hu
                    obtain ⟨dmx, bx, hrowx, kwx, hal⟩ := HF.out
                    obtain ⟨xg, xk, t3, hst, dmq, hsgq, kwq, enn⟩ := HX.out
                    have dmy := dmx.nu hky
                    have bxy := box2 bx hky
                    obtain ⟨_, _, _, _, a4⟩ := cell5 bxy
                    obtain ⟨a5, a6⟩ := num_at dmy.g dmy.lg xg
                    have dmG := dmy.setG g (x - (q : Int)) hgn
                    have kG := Kp.setCell wy ⟨w4.heap.size, g, none⟩ (.int .i64 (x - (q : Int)))
                    have hbg : wc.heap.size ≠ w4.heap.size := fun e => by
                      obtain ⟨cc, hcc⟩ := own_obj dmy.g (g := w4.heap.size) rfl
                      rw [← e, bxy] at hcc
                      cases hcc
                    have bxG := (kG.block wc.heap.size (blk_lt bxy) (fun e => hbg e)).trans bxy
                    obtain ⟨_, _, _, _, b4⟩ := cell5 bxG
                    obtain ⟨b5, b6⟩ := num_at dmG.t dmG.lt xk
                    have dmT := dmG.setT kk (y - (q : Int)) hkn
                    have wx1 : IntKind.i64.wrap (x - (q : Int)) = x - (q : Int) := by rw [IntKind.wrap_i64]; omega
                    have wy1 : IntKind.i64.wrap (y - (q : Int)) = y - (q : Int) := by rw [IntKind.wrap_i64]; omega
                    have HG := hide (And.intro dmT (And.intro hu (And.intro hky (And.intro hrowx (And.intro kwx hal)))))
                    obtain ⟨AL, eAL⟩ : ∃ AL, (asg L' lo sg.hi (kk : Int)).length = AL := ⟨_, rfl⟩
                    rw [eAL]
                    have HAL := hide eAL
                    clear CU dmx bx hrowx kwx hal xg xk t3 hst dmq hsgq kwq enn dmy bxy dmG kG hbg bxG dmT hu hky eAL
                    go_wp2_with fail
                    go_region
                    go_wp2_with fail
                    go_region
                    go_wp2
                    obtain ⟨dmT, hu, hky, hrowx, kwx, hal⟩ := HG.out
                    obtain ⟨be, dme, hsge, kwe, inv', md, less, sgv, stk, hox, hosl, hown7, st, hown, hobb⟩ := HE.out
                    have hD := HDD.out
                    have hbnd := hD.bnd
                    have hsp := Pn.sp_nonneg σ'.gv
                    have hks := HU.out.2.2.1
                    have hAL := HAL.out
                    have hl8 := hD.l8
                    have hll := hD.ll
                    have kset : Kp (fun g => g = w4.heap.size ∨ g = w5.heap.size) wy (((wy.setCell ⟨w4.heap.size, g, none⟩ (.int .i64 (x - (q : Int)))).setCell ⟨w5.heap.size, kk, none⟩ (.int .i64 (y - (q : Int)))).drew.drew) := (((Kp.refl (fun g => g = w4.heap.size ∨ g = w5.heap.size) wy).andSet ⟨w4.heap.size, g, none⟩ _ (.inr (.inl rfl))).andSet ⟨w5.heap.size, kk, none⟩ _ (.inr (.inr rfl))).drew.drew
                    obtain ⟨c4, hc4⟩ := own_obj HF.out.1.g (g := w4.heap.size) rfl
                    obtain ⟨c5, hc5⟩ := own_obj HF.out.1.t (g := w5.heap.size) rfl
                    have hc4y := box2 hc4 hky
                    have hc5y := box2 hc5 hky
                    have hn45 : ∀ {g : Nat} {c : Array Value} {t : TypeId}, wy.heap[g]? = some (.cells c t (0, 0)) → t ≠ 3 → ¬ (g = w4.heap.size ∨ g = w5.heap.size) := fun {g c t} hg ht e => by
                      rcases e with e | e
                      · rw [e, hc4y] at hg; cases hg; exact ht rfl
                      · rw [e, hc5y] at hg; cases hg; exact ht rfl
                    refine ⟨⟨i + 1, AL, ua, some ⟨g3, 0, none⟩, uc, cap3, rfl, rfl, by go_num, by omega, hide ⟨ms ++ [⟨(g : Int), (kk : Int), lo, sg.hi, (q : Int)⟩], σ', asg L' lo sg.hi (kk : Int), hD.stp.snoc st, inv', by rw [List.length_append, hD.len]; rfl, by omega, fun m hm => ?_, ?_, ?_, ?_, hAL, by omega, ?_, Nat.le_refl _⟩⟩, by simp [intOf]; omega⟩
                    · rcases List.mem_append.1 hm with hm | hm
                      · exact hD.fit m hm
                      · simp only [List.mem_singleton] at hm
                        rw [hm]; exact md.mvb
                    · rw [cellsMs_snoc]
                      have hrowy := own_keep hrowx (fun g e => hky.block g (own_lt hrowx e) (fun h => h))
                      exact own_keep hrowy (fun g e => by
                        obtain ⟨cc, hcc⟩ := own_obj hrowy e
                        exact kset.block g (blk_lt hcc) (hn45 hcc (by decide)))
                    · rw [sgv, stk, ← hox]
                      exact dmT.nu ((Kp.refl Nu _).drew.drew)
                    · rw [hAL] at hu
                      have h0 := own_base hu kwx.size
                      exact own_keep h0 (fun g e => by
                        obtain ⟨cc, hcc⟩ := own_obj h0 e
                        exact kset.block g (blk_lt hcc) (hn45 hcc (by decide)))
                    · exact (kwx.andNu hky).trans kset (fun g' hg' e => by
                        have h1 : g' = w4.heap.size ∨ g' = w5.heap.size := e
                        have := H4.out.1.size
                        omega)
              · have d2 : decide (y < x) = false := by simpa using c2
                rw [show (nn : Int) = x by omega] at TK
                have HC := hide (And.intro c1 c2)
                clear c1 c2 enn
                go_wp2_with fail
                refine TK.mono ?_; rintro e wc ⟨q, lo, rfl, hT, hkc⟩
                obtain ⟨wd, hwd⟩ : ∃ wd, wc.alloc (.cells #[.int .u8 (g : Int), .int .u8 (kk : Int), .int .u64 lo, .int .u64 sg.hi, .int .i64 (q : Int)] 59) = wd := ⟨_, rfl⟩
                have kd : Kp Nu wc wd := by rw [← hwd]; exact Kp.alloc _ _ _
                have bd : wd.heap[wc.heap.size]? = some (.cells #[.int .u8 (g : Int), .int .u8 (kk : Int), .int .u64 lo, .int .u64 sg.hi, .int .i64 (q : Int)] 59 (0, 0)) := by rw [← hwd]; exact heap_alloc_new wc _
                obtain ⟨v0, v1, v2, v3, v4⟩ := cell5 bd
                have kqd : Kp Nu wq wd := hkc.andNu kd
                have hD := HDD.out
                have hrowd : wd.ownsRow w.heap.size 59 5 (.slice ma i mc) i (cellsMs ms) := own_keep hD.row (fun g e => (HB.out.2.andNu kqd).block g (own_lt hD.row e) (fun h => h))
                have hrl : ∀ g, (Value.slice ma i mc).ownBlock = some g → g < wc.heap.size := fun g e => Nat.lt_of_lt_of_le (own_lt hD.row e) (HB.out.2.andNu hkc).size
                have hwds : w.heap.size ≤ wd.heap.size := (hD.kp.andNu (HB.out.2.andNu kqd)).size
                have HT2 := hide (And.intro hT (And.intro hkc (And.intro kd (And.intro bd (And.intro kqd (And.intro hrowd hrl))))))
                clear TK hT hkc kd bd kqd hD hrowd hrl
                obtain ⟨i0, hiT, hj0, hj1, hj2⟩ := info_parts info59
                go_wp2_with (at_builtin; refine unhid ?_)
                refine wpList_append_lies _ rfl _ _ 37 rfl w.heap.size 59 i0 _ 5 32 Try.underlying37 hiT hj0 hj1 hj2 rfl (by decide) (.slice ma i mc) i (cellsMs ms) rfl (HT2.out.2.2.2.2.2.1.alloc _) ⟨wd.heap.size, 0, none⟩ 1 1 [.int .u8 (g : Int), .int .u8 (kk : Int), .int .u64 lo, .int .u64 sg.hi, .int .i64 (q : Int)] (by first | rfl | (simp; done)) rfl (World.news_of_block (heap_alloc_new _ _)) (by simp [Value.oneCell']) (by decide) (by unfold maxLen; omega) (by omega) (by rw [World.size_alloc]; omega) _ rfl ?_
                intro g3 cap3 we hown7 hgrow7 hat7 hlt7
                obtain ⟨hT, hkc, kd, bd, kqd, hrowd, hrl⟩ := HT2.out
                have kA7 := Kp.alloc wd (.cells #[.int .u8 (g : Int), .int .u8 (kk : Int), .int .u64 lo, .int .u64 sg.hi, .int .i64 (q : Int)] 59) Nu
                have kg := Kp.of_grown hgrow7
                have hrowA := own_keep hrowd (fun g e => kA7.block g (own_lt hrowd e) (fun h => h))
                have be : we.heap[wc.heap.size]? = some (.cells #[.int .u8 (g : Int), .int .u8 (kk : Int), .int .u64 lo, .int .u64 sg.hi, .int .i64 (q : Int)] 59 (0, 0)) := (kg.block wc.heap.size (blk_lt (box2 bd kA7)) (fun e => by have := hrl _ e.symm; omega)).trans (box2 bd kA7)
                obtain ⟨xg, xk, t3, hst, dmq, hsgq, kwq, enn⟩ := HX.out
                have kqA := kqd.andNu kA7
                have dme := (dmq.nu kqA).oth kg (fun g e c hg => by
                  obtain ⟨cc, hcc⟩ := own_obj hrowA e.symm
                  rw [hg] at hcc
                  cases hcc)
                have hsgA := own_keep hsgq (fun g e => kqA.block g (own_lt hsgq e) (fun h => h))
                have hsge := own_keep hsgA (w' := we) (fun g e => kg.block g (own_lt hsgA e) (fun e2 => by
                  obtain ⟨cc, hcc⟩ := own_obj hrowA e2.symm
                  obtain ⟨cd, hcd⟩ := own_obj hsgA e
                  rw [hcd] at hcc
                  cases hcc))
                have kwe : Kp Nu w we := (kwq.andNu kqA).trans kg (fun g hg e => by have := (hrowd.lt g e.symm).1; omega)
                obtain ⟨σ', st, sgv, stk, hox⟩ := hst q lo hT
                have hD := HDD.out
                obtain ⟨inv', md⟩ := hD.inv.step HT.out.1.2.2 HU.out.2.2.2.2 HN.out.2.1 st
                have less := Stp.less hD.inv HT.out.1.2.2 HU.out.2.2.2.2 HN.out.2.1 st
                have hqT := hT.pT
                have hq1 := hT.p1
                have hqn := hT.pn
                have hlo0 : 0 ≤ lo := md.l0
                have hloh : lo ≤ sg.hi := md.lh
                have hhi1 : sg.hi < 18446744073709551616 := md.h1
                have hkk1 : (kk : Int) < 16 := md.t1
                have hown : Own L' lo sg.hi (g : Int) := md.own
                have hosl : (ks.map (ow L')).length = N := by rw [List.length_map, HU.out.2.2.1]
                obtain ⟨ob, oc', eob, hob1, _, curo, hobb⟩ := row1_at (xs := Pn.ics (ks.map (ow L'))) (v := .slice oa N oc) (B := w.heap.size) (w := we) (e := 3) (i := TT) (x := .int .i64 (ow L' z)) (by
                  have h := dme.o
                  rw [Pn.ics_len]
                  exact h) (by unfold Pn.ics; rw [List.map_map, List.getElem?_map, t3]; rfl)
                rw [Pn.ics_len, hosl] at eob
                simp only [Value.slice.injEq] at eob
                obtain ⟨eoa, _, eoc⟩ := eob
                subst eoa
                have obne : wc.heap.size ≠ ob := fun e => by rw [← e, be] at hobb; cases hobb
                have HE := hide (And.intro be (And.intro dme (And.intro hsge (And.intro kwe (And.intro inv' (And.intro md (And.intro less (And.intro sgv (And.intro stk (And.intro hox (And.intro hosl (And.intro hown7 (And.intro st (And.intro hown hobb))))))))))))))
                obtain ⟨v0, v1, v2, v3, v4⟩ := cell5 be
                clear hT hkc kd bd kqd hrowd hrl kA7 kg hrowA be xg xk t3 hst dmq hsgq kwq enn kqA dme hsgA hsge kwe sgv stk hox hD inv' md less hosl hown7 hgrow7 hat7 hlt7 hobb eoc st hown
                go_wp2
                go_loopw [27] (fun xv wx => ∃ j : Nat, xv = .int .i64 (j : Int) ∧ j ≤ q ∧ Hid (Dm w.heap.size w4.heap.size w5.heap.size n' (.slice (some ⟨ob, 0, none⟩) N oc) σ.gv σ.tk (osx (ks.map (ow L')) TT (kk : Int) j) wx ∧ Kp (fun g => g = ob) we wx)) (fun xv _ => q - (intOf xv).toNat)
                case atStart => exact ⟨0, rfl, Nat.zero_le _, hide ⟨HE.out.2.1, Kp.refl _ _⟩⟩
                case round =>
                  obtain ⟨j, rfl, hj, hJ⟩ := hrel
                  have hj00 : (0 : Int) ≤ (j : Int) := by omega
                  obtain ⟨dmx, kx⟩ := hJ.out
                  have bx : wr.heap[wc.heap.size]? = some (.cells #[.int .u8 (g : Int), .int .u8 (kk : Int), .int .u64 lo, .int .u64 sg.hi, .int .i64 (q : Int)] 59 (0, 0)) := (kx.block wc.heap.size (blk_lt HE.out.1) (fun e => obne e)).trans HE.out.1
                  obtain ⟨v0, v1, v2, v3, v4⟩ := cell5 bx
                  by_cases hjq : j < q
                  · have hjqI : (j : Int) < (q : Int) := by omega
                    have ew : IntKind.i64.wrap ((TT : Int) - (j : Int)) = (TT : Int) - (j : Int) := by rw [IntKind.wrap_i64]; omega
                    have e0 : (0 : Int) ≤ (TT : Int) - (j : Int) := by omega
                    have e1 : (TT : Int) - (j : Int) < (N : Int) := by omega
                    have e2 : ((TT : Int) - (j : Int)).toNat = TT - j := by omega
                    obtain ⟨xo, hxo⟩ : ∃ xo, (osx (ks.map (ow L')) TT (kk : Int) j)[TT - j]? = some xo := ⟨_, List.getElem?_eq_getElem (by rw [osx_len, HE.out.2.2.2.2.2.2.2.2.2.2.1]; omega)⟩
                    have hol : (osx (ks.map (ow L')) TT (kk : Int) j).length = N := by rw [osx_len, HE.out.2.2.2.2.2.2.2.2.2.2.1]
                    have ho := dmx.o
                    rw [hol] at ho
                    obtain ⟨z1, z2⟩ := num_at ho hol hxo
                    have dm2 := dmx.setO hol (TT - j) (kk : Int) (by omega)
                    have HJ := hide (And.intro dm2 kx)
                    clear dmx kx bx hxo hol ho dm2
                    go_wp2
                    exact ⟨⟨j + 1, by go_num, by omega, hide ⟨HJ.out.1, HJ.out.2.andSet _ _ (.inr rfl)⟩⟩, by simp [intOf]; omega⟩
                  · have hge : ¬ (j : Int) < (q : Int) := by omega
                    obtain rfl : q = j := by omega
                    obtain ⟨be, dme, hsge, kwe, inv', md, less, sgv, stk, hox, hosl, hown7, st, hown, hobb⟩ := HE.out
                    have hD := HDD.out
                    have hne3 : ∀ {g : Nat} {c : Array Value} {t : TypeId}, we.heap[g]? = some (.cells c t (0, 0)) → t ≠ 3 → ¬ (g = ob) := fun {g c t} hg ht e => by
                      rw [e, hobb] at hg
                      cases hg
                      exact ht rfl
                    have hsgx := own_keep hsge (w' := wr) (fun g e => by
                      obtain ⟨cc, hcc⟩ := own_obj hsge e
                      exact kx.block g (blk_lt hcc) (hne3 hcc (by decide)))
                    have hrowx := own_keep hown7 (w' := wr) (fun g e => by
                      obtain ⟨cc, hcc⟩ := own_obj hown7 e
                      exact kx.block g (blk_lt hcc) (hne3 hcc (by decide)))
                    have kwx : Kp Nu w wr := kwe.trans kx (fun g hg e => by have e2 : g = ob := e; omega)
                    have CU := cut40 wr (.slice la ln lc) L' lo sg.hi (kk : Int) (Sgs.of_own (B := w.heap.size) (by rw [hD.ll]; exact hsgx) hD.inv.tab.sgb) (by have := hD.ll; have := hD.l8; omega) ⟨hlo0, by omega⟩ ⟨by omega, hhi1⟩
                    rw [cut_asg hD.inv.tab hlo0 hloh hhi1 hk0 hkk1 hown] at CU
                    have hal := asg_len hD.inv.tab hlo0 hloh hhi1 hk0 hkk1
                    have HF := hide (And.intro dmx (And.intro bx (And.intro hrowx (And.intro kwx hal))))
                    clear be dme hsge kwe inv' md less sgv stk hox hosl hown7 st hown hobb hD hne3 hsgx hrowx kwx hal dmx kx bx
                    go_wp2_with fail
                    refine CU.mono ?_; rintro e wy ⟨u', rfl, hu, hky⟩
                    obtain ⟨ua, uc, rfl⟩ := own_slice hu
                    obtain ⟨dmx, bx, hrowx, kwx, hal⟩ := HF.out
                    obtain ⟨xg, xk, t3, hst, dmq, hsgq, kwq, enn⟩ := HX.out
                    have dmy := dmx.nu hky
                    have bxy := box2 bx hky
                    obtain ⟨_, _, _, _, a4⟩ := cell5 bxy
                    obtain ⟨a5, a6⟩ := num_at dmy.g dmy.lg xg
                    have dmG := dmy.setG g (x - (q : Int)) hgn
                    have kG := Kp.setCell wy ⟨w4.heap.size, g, none⟩ (.int .i64 (x - (q : Int)))
                    have hbg : wc.heap.size ≠ w4.heap.size := fun e => by
                      obtain ⟨cc, hcc⟩ := own_obj dmy.g (g := w4.heap.size) rfl
                      rw [← e, bxy] at hcc
                      cases hcc
                    have bxG := (kG.block wc.heap.size (blk_lt bxy) (fun e => hbg e)).trans bxy
                    obtain ⟨_, _, _, _, b4⟩ := cell5 bxG
                    obtain ⟨b5, b6⟩ := num_at dmG.t dmG.lt xk
                    have dmT := dmG.setT kk (y - (q : Int)) hkn
                    have wx1 : IntKind.i64.wrap (x - (q : Int)) = x - (q : Int) := by rw [IntKind.wrap_i64]; omega
                    have wy1 : IntKind.i64.wrap (y - (q : Int)) = y - (q : Int) := by rw [IntKind.wrap_i64]; omega
                    have HG := hide (And.intro dmT (And.intro hu (And.intro hky (And.intro hrowx (And.intro kwx hal)))))
                    obtain ⟨AL, eAL⟩ : ∃ AL, (asg L' lo sg.hi (kk : Int)).length = AL := ⟨_, rfl⟩
                    rw [eAL]
                    have HAL := hide eAL
                    clear CU dmx bx hrowx kwx hal xg xk t3 hst dmq hsgq kwq enn dmy bxy dmG kG hbg bxG dmT hu hky eAL
                    go_wp2_with fail
                    go_region
                    go_wp2_with fail
                    go_region
                    go_wp2
                    obtain ⟨dmT, hu, hky, hrowx, kwx, hal⟩ := HG.out
                    obtain ⟨be, dme, hsge, kwe, inv', md, less, sgv, stk, hox, hosl, hown7, st, hown, hobb⟩ := HE.out
                    have hD := HDD.out
                    have hbnd := hD.bnd
                    have hsp := Pn.sp_nonneg σ'.gv
                    have hks := HU.out.2.2.1
                    have hAL := HAL.out
                    have hl8 := hD.l8
                    have hll := hD.ll
                    have kset : Kp (fun g => g = w4.heap.size ∨ g = w5.heap.size) wy (((wy.setCell ⟨w4.heap.size, g, none⟩ (.int .i64 (x - (q : Int)))).setCell ⟨w5.heap.size, kk, none⟩ (.int .i64 (y - (q : Int)))).drew.drew) := (((Kp.refl (fun g => g = w4.heap.size ∨ g = w5.heap.size) wy).andSet ⟨w4.heap.size, g, none⟩ _ (.inr (.inl rfl))).andSet ⟨w5.heap.size, kk, none⟩ _ (.inr (.inr rfl))).drew.drew
                    obtain ⟨c4, hc4⟩ := own_obj HF.out.1.g (g := w4.heap.size) rfl
                    obtain ⟨c5, hc5⟩ := own_obj HF.out.1.t (g := w5.heap.size) rfl
                    have hc4y := box2 hc4 hky
                    have hc5y := box2 hc5 hky
                    have hn45 : ∀ {g : Nat} {c : Array Value} {t : TypeId}, wy.heap[g]? = some (.cells c t (0, 0)) → t ≠ 3 → ¬ (g = w4.heap.size ∨ g = w5.heap.size) := fun {g c t} hg ht e => by
                      rcases e with e | e
                      · rw [e, hc4y] at hg; cases hg; exact ht rfl
                      · rw [e, hc5y] at hg; cases hg; exact ht rfl
                    refine ⟨⟨i + 1, AL, ua, some ⟨g3, 0, none⟩, uc, cap3, rfl, rfl, by go_num, by omega, hide ⟨ms ++ [⟨(g : Int), (kk : Int), lo, sg.hi, (q : Int)⟩], σ', asg L' lo sg.hi (kk : Int), hD.stp.snoc st, inv', by rw [List.length_append, hD.len]; rfl, by omega, fun m hm => ?_, ?_, ?_, ?_, hAL, by omega, ?_, Nat.le_refl _⟩⟩, by simp [intOf]; omega⟩
                    · rcases List.mem_append.1 hm with hm | hm
                      · exact hD.fit m hm
                      · simp only [List.mem_singleton] at hm
                        rw [hm]; exact md.mvb
                    · rw [cellsMs_snoc]
                      have hrowy := own_keep hrowx (fun g e => hky.block g (own_lt hrowx e) (fun h => h))
                      exact own_keep hrowy (fun g e => by
                        obtain ⟨cc, hcc⟩ := own_obj hrowy e
                        exact kset.block g (blk_lt hcc) (hn45 hcc (by decide)))
                    · rw [sgv, stk, ← hox]
                      exact dmT.nu ((Kp.refl Nu _).drew.drew)
                    · rw [hAL] at hu
                      have h0 := own_base hu kwx.size
                      exact own_keep h0 (fun g e => by
                        obtain ⟨cc, hcc⟩ := own_obj h0 e
                        exact kset.block g (blk_lt hcc) (hn45 hcc (by decide)))
                    · exact (kwx.andNu hky).trans kset (fun g' hg' e => by
                        have h1 : g' = w4.heap.size ∨ g' = w5.heap.size := e
                        have := H4.out.1.size
                        omega)
            · have d1 : decide (x < most) = false := by simpa using c1
              by_cases c2 : y < most
              · have d2 : decide (y < most) = true := by simpa using c2
                rw [show (nn : Int) = y by omega] at TK
                have HC := hide (And.intro c1 c2)
                clear c1 c2 enn
                go_wp2_with fail
                refine TK.mono ?_; rintro e wc ⟨q, lo, rfl, hT, hkc⟩
                obtain ⟨wd, hwd⟩ : ∃ wd, wc.alloc (.cells #[.int .u8 (g : Int), .int .u8 (kk : Int), .int .u64 lo, .int .u64 sg.hi, .int .i64 (q : Int)] 59) = wd := ⟨_, rfl⟩
                have kd : Kp Nu wc wd := by rw [← hwd]; exact Kp.alloc _ _ _
                have bd : wd.heap[wc.heap.size]? = some (.cells #[.int .u8 (g : Int), .int .u8 (kk : Int), .int .u64 lo, .int .u64 sg.hi, .int .i64 (q : Int)] 59 (0, 0)) := by rw [← hwd]; exact heap_alloc_new wc _
                obtain ⟨v0, v1, v2, v3, v4⟩ := cell5 bd
                have kqd : Kp Nu wq wd := hkc.andNu kd
                have hD := HDD.out
                have hrowd : wd.ownsRow w.heap.size 59 5 (.slice ma i mc) i (cellsMs ms) := own_keep hD.row (fun g e => (HB.out.2.andNu kqd).block g (own_lt hD.row e) (fun h => h))
                have hrl : ∀ g, (Value.slice ma i mc).ownBlock = some g → g < wc.heap.size := fun g e => Nat.lt_of_lt_of_le (own_lt hD.row e) (HB.out.2.andNu hkc).size
                have hwds : w.heap.size ≤ wd.heap.size := (hD.kp.andNu (HB.out.2.andNu kqd)).size
                have HT2 := hide (And.intro hT (And.intro hkc (And.intro kd (And.intro bd (And.intro kqd (And.intro hrowd hrl))))))
                clear TK hT hkc kd bd kqd hD hrowd hrl
                obtain ⟨i0, hiT, hj0, hj1, hj2⟩ := info_parts info59
                go_wp2_with (at_builtin; refine unhid ?_)
                refine wpList_append_lies _ rfl _ _ 37 rfl w.heap.size 59 i0 _ 5 32 Try.underlying37 hiT hj0 hj1 hj2 rfl (by decide) (.slice ma i mc) i (cellsMs ms) rfl (HT2.out.2.2.2.2.2.1.alloc _) ⟨wd.heap.size, 0, none⟩ 1 1 [.int .u8 (g : Int), .int .u8 (kk : Int), .int .u64 lo, .int .u64 sg.hi, .int .i64 (q : Int)] (by first | rfl | (simp; done)) rfl (World.news_of_block (heap_alloc_new _ _)) (by simp [Value.oneCell']) (by decide) (by unfold maxLen; omega) (by omega) (by rw [World.size_alloc]; omega) _ rfl ?_
                intro g3 cap3 we hown7 hgrow7 hat7 hlt7
                obtain ⟨hT, hkc, kd, bd, kqd, hrowd, hrl⟩ := HT2.out
                have kA7 := Kp.alloc wd (.cells #[.int .u8 (g : Int), .int .u8 (kk : Int), .int .u64 lo, .int .u64 sg.hi, .int .i64 (q : Int)] 59) Nu
                have kg := Kp.of_grown hgrow7
                have hrowA := own_keep hrowd (fun g e => kA7.block g (own_lt hrowd e) (fun h => h))
                have be : we.heap[wc.heap.size]? = some (.cells #[.int .u8 (g : Int), .int .u8 (kk : Int), .int .u64 lo, .int .u64 sg.hi, .int .i64 (q : Int)] 59 (0, 0)) := (kg.block wc.heap.size (blk_lt (box2 bd kA7)) (fun e => by have := hrl _ e.symm; omega)).trans (box2 bd kA7)
                obtain ⟨xg, xk, t3, hst, dmq, hsgq, kwq, enn⟩ := HX.out
                have kqA := kqd.andNu kA7
                have dme := (dmq.nu kqA).oth kg (fun g e c hg => by
                  obtain ⟨cc, hcc⟩ := own_obj hrowA e.symm
                  rw [hg] at hcc
                  cases hcc)
                have hsgA := own_keep hsgq (fun g e => kqA.block g (own_lt hsgq e) (fun h => h))
                have hsge := own_keep hsgA (w' := we) (fun g e => kg.block g (own_lt hsgA e) (fun e2 => by
                  obtain ⟨cc, hcc⟩ := own_obj hrowA e2.symm
                  obtain ⟨cd, hcd⟩ := own_obj hsgA e
                  rw [hcd] at hcc
                  cases hcc))
                have kwe : Kp Nu w we := (kwq.andNu kqA).trans kg (fun g hg e => by have := (hrowd.lt g e.symm).1; omega)
                obtain ⟨σ', st, sgv, stk, hox⟩ := hst q lo hT
                have hD := HDD.out
                obtain ⟨inv', md⟩ := hD.inv.step HT.out.1.2.2 HU.out.2.2.2.2 HN.out.2.1 st
                have less := Stp.less hD.inv HT.out.1.2.2 HU.out.2.2.2.2 HN.out.2.1 st
                have hqT := hT.pT
                have hq1 := hT.p1
                have hqn := hT.pn
                have hlo0 : 0 ≤ lo := md.l0
                have hloh : lo ≤ sg.hi := md.lh
                have hhi1 : sg.hi < 18446744073709551616 := md.h1
                have hkk1 : (kk : Int) < 16 := md.t1
                have hown : Own L' lo sg.hi (g : Int) := md.own
                have hosl : (ks.map (ow L')).length = N := by rw [List.length_map, HU.out.2.2.1]
                obtain ⟨ob, oc', eob, hob1, _, curo, hobb⟩ := row1_at (xs := Pn.ics (ks.map (ow L'))) (v := .slice oa N oc) (B := w.heap.size) (w := we) (e := 3) (i := TT) (x := .int .i64 (ow L' z)) (by
                  have h := dme.o
                  rw [Pn.ics_len]
                  exact h) (by unfold Pn.ics; rw [List.map_map, List.getElem?_map, t3]; rfl)
                rw [Pn.ics_len, hosl] at eob
                simp only [Value.slice.injEq] at eob
                obtain ⟨eoa, _, eoc⟩ := eob
                subst eoa
                have obne : wc.heap.size ≠ ob := fun e => by rw [← e, be] at hobb; cases hobb
                have HE := hide (And.intro be (And.intro dme (And.intro hsge (And.intro kwe (And.intro inv' (And.intro md (And.intro less (And.intro sgv (And.intro stk (And.intro hox (And.intro hosl (And.intro hown7 (And.intro st (And.intro hown hobb))))))))))))))
                obtain ⟨v0, v1, v2, v3, v4⟩ := cell5 be
                clear hT hkc kd bd kqd hrowd hrl kA7 kg hrowA be xg xk t3 hst dmq hsgq kwq enn kqA dme hsgA hsge kwe sgv stk hox hD inv' md less hosl hown7 hgrow7 hat7 hlt7 hobb eoc st hown
                go_wp2
                go_loopw [27] (fun xv wx => ∃ j : Nat, xv = .int .i64 (j : Int) ∧ j ≤ q ∧ Hid (Dm w.heap.size w4.heap.size w5.heap.size n' (.slice (some ⟨ob, 0, none⟩) N oc) σ.gv σ.tk (osx (ks.map (ow L')) TT (kk : Int) j) wx ∧ Kp (fun g => g = ob) we wx)) (fun xv _ => q - (intOf xv).toNat)
                case atStart => exact ⟨0, rfl, Nat.zero_le _, hide ⟨HE.out.2.1, Kp.refl _ _⟩⟩
                case round =>
                  obtain ⟨j, rfl, hj, hJ⟩ := hrel
                  have hj00 : (0 : Int) ≤ (j : Int) := by omega
                  obtain ⟨dmx, kx⟩ := hJ.out
                  have bx : wr.heap[wc.heap.size]? = some (.cells #[.int .u8 (g : Int), .int .u8 (kk : Int), .int .u64 lo, .int .u64 sg.hi, .int .i64 (q : Int)] 59 (0, 0)) := (kx.block wc.heap.size (blk_lt HE.out.1) (fun e => obne e)).trans HE.out.1
                  obtain ⟨v0, v1, v2, v3, v4⟩ := cell5 bx
                  by_cases hjq : j < q
                  · have hjqI : (j : Int) < (q : Int) := by omega
                    have ew : IntKind.i64.wrap ((TT : Int) - (j : Int)) = (TT : Int) - (j : Int) := by rw [IntKind.wrap_i64]; omega
                    have e0 : (0 : Int) ≤ (TT : Int) - (j : Int) := by omega
                    have e1 : (TT : Int) - (j : Int) < (N : Int) := by omega
                    have e2 : ((TT : Int) - (j : Int)).toNat = TT - j := by omega
                    obtain ⟨xo, hxo⟩ : ∃ xo, (osx (ks.map (ow L')) TT (kk : Int) j)[TT - j]? = some xo := ⟨_, List.getElem?_eq_getElem (by rw [osx_len, HE.out.2.2.2.2.2.2.2.2.2.2.1]; omega)⟩
                    have hol : (osx (ks.map (ow L')) TT (kk : Int) j).length = N := by rw [osx_len, HE.out.2.2.2.2.2.2.2.2.2.2.1]
                    have ho := dmx.o
                    rw [hol] at ho
                    obtain ⟨z1, z2⟩ := num_at ho hol hxo
                    have dm2 := dmx.setO hol (TT - j) (kk : Int) (by omega)
                    have HJ := hide (And.intro dm2 kx)
                    clear dmx kx bx hxo hol ho dm2
                    go_wp2
                    exact ⟨⟨j + 1, by go_num, by omega, hide ⟨HJ.out.1, HJ.out.2.andSet _ _ (.inr rfl)⟩⟩, by simp [intOf]; omega⟩
                  · have hge : ¬ (j : Int) < (q : Int) := by omega
                    obtain rfl : q = j := by omega
                    obtain ⟨be, dme, hsge, kwe, inv', md, less, sgv, stk, hox, hosl, hown7, st, hown, hobb⟩ := HE.out
                    have hD := HDD.out
                    have hne3 : ∀ {g : Nat} {c : Array Value} {t : TypeId}, we.heap[g]? = some (.cells c t (0, 0)) → t ≠ 3 → ¬ (g = ob) := fun {g c t} hg ht e => by
                      rw [e, hobb] at hg
                      cases hg
                      exact ht rfl
                    have hsgx := own_keep hsge (w' := wr) (fun g e => by
                      obtain ⟨cc, hcc⟩ := own_obj hsge e
                      exact kx.block g (blk_lt hcc) (hne3 hcc (by decide)))
                    have hrowx := own_keep hown7 (w' := wr) (fun g e => by
                      obtain ⟨cc, hcc⟩ := own_obj hown7 e
                      exact kx.block g (blk_lt hcc) (hne3 hcc (by decide)))
                    have kwx : Kp Nu w wr := kwe.trans kx (fun g hg e => by have e2 : g = ob := e; omega)
                    have CU := cut40 wr (.slice la ln lc) L' lo sg.hi (kk : Int) (Sgs.of_own (B := w.heap.size) (by rw [hD.ll]; exact hsgx) hD.inv.tab.sgb) (by have := hD.ll; have := hD.l8; omega) ⟨hlo0, by omega⟩ ⟨by omega, hhi1⟩
                    rw [cut_asg hD.inv.tab hlo0 hloh hhi1 hk0 hkk1 hown] at CU
                    have hal := asg_len hD.inv.tab hlo0 hloh hhi1 hk0 hkk1
                    have HF := hide (And.intro dmx (And.intro bx (And.intro hrowx (And.intro kwx hal))))
                    clear be dme hsge kwe inv' md less sgv stk hox hosl hown7 st hown hobb hD hne3 hsgx hrowx kwx hal dmx kx bx
                    go_wp2_with fail
                    refine CU.mono ?_; rintro e wy ⟨u', rfl, hu, hky⟩
                    obtain ⟨ua, uc, rfl⟩ := own_slice hu
                    obtain ⟨dmx, bx, hrowx, kwx, hal⟩ := HF.out
                    obtain ⟨xg, xk, t3, hst, dmq, hsgq, kwq, enn⟩ := HX.out
                    have dmy := dmx.nu hky
                    have bxy := box2 bx hky
                    obtain ⟨_, _, _, _, a4⟩ := cell5 bxy
                    obtain ⟨a5, a6⟩ := num_at dmy.g dmy.lg xg
                    have dmG := dmy.setG g (x - (q : Int)) hgn
                    have kG := Kp.setCell wy ⟨w4.heap.size, g, none⟩ (.int .i64 (x - (q : Int)))
                    have hbg : wc.heap.size ≠ w4.heap.size := fun e => by
                      obtain ⟨cc, hcc⟩ := own_obj dmy.g (g := w4.heap.size) rfl
                      rw [← e, bxy] at hcc
                      cases hcc
                    have bxG := (kG.block wc.heap.size (blk_lt bxy) (fun e => hbg e)).trans bxy
                    obtain ⟨_, _, _, _, b4⟩ := cell5 bxG
                    obtain ⟨b5, b6⟩ := num_at dmG.t dmG.lt xk
                    have dmT := dmG.setT kk (y - (q : Int)) hkn
                    have wx1 : IntKind.i64.wrap (x - (q : Int)) = x - (q : Int) := by rw [IntKind.wrap_i64]; omega
                    have wy1 : IntKind.i64.wrap (y - (q : Int)) = y - (q : Int) := by rw [IntKind.wrap_i64]; omega
                    have HG := hide (And.intro dmT (And.intro hu (And.intro hky (And.intro hrowx (And.intro kwx hal)))))
                    obtain ⟨AL, eAL⟩ : ∃ AL, (asg L' lo sg.hi (kk : Int)).length = AL := ⟨_, rfl⟩
                    rw [eAL]
                    have HAL := hide eAL
                    clear CU dmx bx hrowx kwx hal xg xk t3 hst dmq hsgq kwq enn dmy bxy dmG kG hbg bxG dmT hu hky eAL
                    go_wp2_with fail
                    go_region
                    go_wp2_with fail
                    go_region
                    go_wp2
                    obtain ⟨dmT, hu, hky, hrowx, kwx, hal⟩ := HG.out
                    obtain ⟨be, dme, hsge, kwe, inv', md, less, sgv, stk, hox, hosl, hown7, st, hown, hobb⟩ := HE.out
                    have hD := HDD.out
                    have hbnd := hD.bnd
                    have hsp := Pn.sp_nonneg σ'.gv
                    have hks := HU.out.2.2.1
                    have hAL := HAL.out
                    have hl8 := hD.l8
                    have hll := hD.ll
                    have kset : Kp (fun g => g = w4.heap.size ∨ g = w5.heap.size) wy (((wy.setCell ⟨w4.heap.size, g, none⟩ (.int .i64 (x - (q : Int)))).setCell ⟨w5.heap.size, kk, none⟩ (.int .i64 (y - (q : Int)))).drew.drew) := (((Kp.refl (fun g => g = w4.heap.size ∨ g = w5.heap.size) wy).andSet ⟨w4.heap.size, g, none⟩ _ (.inr (.inl rfl))).andSet ⟨w5.heap.size, kk, none⟩ _ (.inr (.inr rfl))).drew.drew
                    obtain ⟨c4, hc4⟩ := own_obj HF.out.1.g (g := w4.heap.size) rfl
                    obtain ⟨c5, hc5⟩ := own_obj HF.out.1.t (g := w5.heap.size) rfl
                    have hc4y := box2 hc4 hky
                    have hc5y := box2 hc5 hky
                    have hn45 : ∀ {g : Nat} {c : Array Value} {t : TypeId}, wy.heap[g]? = some (.cells c t (0, 0)) → t ≠ 3 → ¬ (g = w4.heap.size ∨ g = w5.heap.size) := fun {g c t} hg ht e => by
                      rcases e with e | e
                      · rw [e, hc4y] at hg; cases hg; exact ht rfl
                      · rw [e, hc5y] at hg; cases hg; exact ht rfl
                    refine ⟨⟨i + 1, AL, ua, some ⟨g3, 0, none⟩, uc, cap3, rfl, rfl, by go_num, by omega, hide ⟨ms ++ [⟨(g : Int), (kk : Int), lo, sg.hi, (q : Int)⟩], σ', asg L' lo sg.hi (kk : Int), hD.stp.snoc st, inv', by rw [List.length_append, hD.len]; rfl, by omega, fun m hm => ?_, ?_, ?_, ?_, hAL, by omega, ?_, Nat.le_refl _⟩⟩, by simp [intOf]; omega⟩
                    · rcases List.mem_append.1 hm with hm | hm
                      · exact hD.fit m hm
                      · simp only [List.mem_singleton] at hm
                        rw [hm]; exact md.mvb
                    · rw [cellsMs_snoc]
                      have hrowy := own_keep hrowx (fun g e => hky.block g (own_lt hrowx e) (fun h => h))
                      exact own_keep hrowy (fun g e => by
                        obtain ⟨cc, hcc⟩ := own_obj hrowy e
                        exact kset.block g (blk_lt hcc) (hn45 hcc (by decide)))
                    · rw [sgv, stk, ← hox]
                      exact dmT.nu ((Kp.refl Nu _).drew.drew)
                    · rw [hAL] at hu
                      have h0 := own_base hu kwx.size
                      exact own_keep h0 (fun g e => by
                        obtain ⟨cc, hcc⟩ := own_obj h0 e
                        exact kset.block g (blk_lt hcc) (hn45 hcc (by decide)))
                    · exact (kwx.andNu hky).trans kset (fun g' hg' e => by
                        have h1 : g' = w4.heap.size ∨ g' = w5.heap.size := e
                        have := H4.out.1.size
                        omega)
              · have d2 : decide (y < most) = false := by simpa using c2
                rw [show (nn : Int) = most by omega] at TK
                have HC := hide (And.intro c1 c2)
                clear c1 c2 enn
                go_wp2_with fail
                refine TK.mono ?_; rintro e wc ⟨q, lo, rfl, hT, hkc⟩
                obtain ⟨wd, hwd⟩ : ∃ wd, wc.alloc (.cells #[.int .u8 (g : Int), .int .u8 (kk : Int), .int .u64 lo, .int .u64 sg.hi, .int .i64 (q : Int)] 59) = wd := ⟨_, rfl⟩
                have kd : Kp Nu wc wd := by rw [← hwd]; exact Kp.alloc _ _ _
                have bd : wd.heap[wc.heap.size]? = some (.cells #[.int .u8 (g : Int), .int .u8 (kk : Int), .int .u64 lo, .int .u64 sg.hi, .int .i64 (q : Int)] 59 (0, 0)) := by rw [← hwd]; exact heap_alloc_new wc _
                obtain ⟨v0, v1, v2, v3, v4⟩ := cell5 bd
                have kqd : Kp Nu wq wd := hkc.andNu kd
                have hD := HDD.out
                have hrowd : wd.ownsRow w.heap.size 59 5 (.slice ma i mc) i (cellsMs ms) := own_keep hD.row (fun g e => (HB.out.2.andNu kqd).block g (own_lt hD.row e) (fun h => h))
                have hrl : ∀ g, (Value.slice ma i mc).ownBlock = some g → g < wc.heap.size := fun g e => Nat.lt_of_lt_of_le (own_lt hD.row e) (HB.out.2.andNu hkc).size
                have hwds : w.heap.size ≤ wd.heap.size := (hD.kp.andNu (HB.out.2.andNu kqd)).size
                have HT2 := hide (And.intro hT (And.intro hkc (And.intro kd (And.intro bd (And.intro kqd (And.intro hrowd hrl))))))
                clear TK hT hkc kd bd kqd hD hrowd hrl
                obtain ⟨i0, hiT, hj0, hj1, hj2⟩ := info_parts info59
                go_wp2_with (at_builtin; refine unhid ?_)
                refine wpList_append_lies _ rfl _ _ 37 rfl w.heap.size 59 i0 _ 5 32 Try.underlying37 hiT hj0 hj1 hj2 rfl (by decide) (.slice ma i mc) i (cellsMs ms) rfl (HT2.out.2.2.2.2.2.1.alloc _) ⟨wd.heap.size, 0, none⟩ 1 1 [.int .u8 (g : Int), .int .u8 (kk : Int), .int .u64 lo, .int .u64 sg.hi, .int .i64 (q : Int)] (by first | rfl | (simp; done)) rfl (World.news_of_block (heap_alloc_new _ _)) (by simp [Value.oneCell']) (by decide) (by unfold maxLen; omega) (by omega) (by rw [World.size_alloc]; omega) _ rfl ?_
                intro g3 cap3 we hown7 hgrow7 hat7 hlt7
                obtain ⟨hT, hkc, kd, bd, kqd, hrowd, hrl⟩ := HT2.out
                have kA7 := Kp.alloc wd (.cells #[.int .u8 (g : Int), .int .u8 (kk : Int), .int .u64 lo, .int .u64 sg.hi, .int .i64 (q : Int)] 59) Nu
                have kg := Kp.of_grown hgrow7
                have hrowA := own_keep hrowd (fun g e => kA7.block g (own_lt hrowd e) (fun h => h))
                have be : we.heap[wc.heap.size]? = some (.cells #[.int .u8 (g : Int), .int .u8 (kk : Int), .int .u64 lo, .int .u64 sg.hi, .int .i64 (q : Int)] 59 (0, 0)) := (kg.block wc.heap.size (blk_lt (box2 bd kA7)) (fun e => by have := hrl _ e.symm; omega)).trans (box2 bd kA7)
                obtain ⟨xg, xk, t3, hst, dmq, hsgq, kwq, enn⟩ := HX.out
                have kqA := kqd.andNu kA7
                have dme := (dmq.nu kqA).oth kg (fun g e c hg => by
                  obtain ⟨cc, hcc⟩ := own_obj hrowA e.symm
                  rw [hg] at hcc
                  cases hcc)
                have hsgA := own_keep hsgq (fun g e => kqA.block g (own_lt hsgq e) (fun h => h))
                have hsge := own_keep hsgA (w' := we) (fun g e => kg.block g (own_lt hsgA e) (fun e2 => by
                  obtain ⟨cc, hcc⟩ := own_obj hrowA e2.symm
                  obtain ⟨cd, hcd⟩ := own_obj hsgA e
                  rw [hcd] at hcc
                  cases hcc))
                have kwe : Kp Nu w we := (kwq.andNu kqA).trans kg (fun g hg e => by have := (hrowd.lt g e.symm).1; omega)
                obtain ⟨σ', st, sgv, stk, hox⟩ := hst q lo hT
                have hD := HDD.out
                obtain ⟨inv', md⟩ := hD.inv.step HT.out.1.2.2 HU.out.2.2.2.2 HN.out.2.1 st
                have less := Stp.less hD.inv HT.out.1.2.2 HU.out.2.2.2.2 HN.out.2.1 st
                have hqT := hT.pT
                have hq1 := hT.p1
                have hqn := hT.pn
                have hlo0 : 0 ≤ lo := md.l0
                have hloh : lo ≤ sg.hi := md.lh
                have hhi1 : sg.hi < 18446744073709551616 := md.h1
                have hkk1 : (kk : Int) < 16 := md.t1
                have hown : Own L' lo sg.hi (g : Int) := md.own
                have hosl : (ks.map (ow L')).length = N := by rw [List.length_map, HU.out.2.2.1]
                obtain ⟨ob, oc', eob, hob1, _, curo, hobb⟩ := row1_at (xs := Pn.ics (ks.map (ow L'))) (v := .slice oa N oc) (B := w.heap.size) (w := we) (e := 3) (i := TT) (x := .int .i64 (ow L' z)) (by
                  have h := dme.o
                  rw [Pn.ics_len]
                  exact h) (by unfold Pn.ics; rw [List.map_map, List.getElem?_map, t3]; rfl)
                rw [Pn.ics_len, hosl] at eob
                simp only [Value.slice.injEq] at eob
                obtain ⟨eoa, _, eoc⟩ := eob
                subst eoa
                have obne : wc.heap.size ≠ ob := fun e => by rw [← e, be] at hobb; cases hobb
                have HE := hide (And.intro be (And.intro dme (And.intro hsge (And.intro kwe (And.intro inv' (And.intro md (And.intro less (And.intro sgv (And.intro stk (And.intro hox (And.intro hosl (And.intro hown7 (And.intro st (And.intro hown hobb))))))))))))))
                obtain ⟨v0, v1, v2, v3, v4⟩ := cell5 be
                clear hT hkc kd bd kqd hrowd hrl kA7 kg hrowA be xg xk t3 hst dmq hsgq kwq enn kqA dme hsgA hsge kwe sgv stk hox hD inv' md less hosl hown7 hgrow7 hat7 hlt7 hobb eoc st hown
                go_wp2
                go_loopw [27] (fun xv wx => ∃ j : Nat, xv = .int .i64 (j : Int) ∧ j ≤ q ∧ Hid (Dm w.heap.size w4.heap.size w5.heap.size n' (.slice (some ⟨ob, 0, none⟩) N oc) σ.gv σ.tk (osx (ks.map (ow L')) TT (kk : Int) j) wx ∧ Kp (fun g => g = ob) we wx)) (fun xv _ => q - (intOf xv).toNat)
                case atStart => exact ⟨0, rfl, Nat.zero_le _, hide ⟨HE.out.2.1, Kp.refl _ _⟩⟩
                case round =>
                  obtain ⟨j, rfl, hj, hJ⟩ := hrel
                  have hj00 : (0 : Int) ≤ (j : Int) := by omega
                  obtain ⟨dmx, kx⟩ := hJ.out
                  have bx : wr.heap[wc.heap.size]? = some (.cells #[.int .u8 (g : Int), .int .u8 (kk : Int), .int .u64 lo, .int .u64 sg.hi, .int .i64 (q : Int)] 59 (0, 0)) := (kx.block wc.heap.size (blk_lt HE.out.1) (fun e => obne e)).trans HE.out.1
                  obtain ⟨v0, v1, v2, v3, v4⟩ := cell5 bx
                  by_cases hjq : j < q
                  · have hjqI : (j : Int) < (q : Int) := by omega
                    have ew : IntKind.i64.wrap ((TT : Int) - (j : Int)) = (TT : Int) - (j : Int) := by rw [IntKind.wrap_i64]; omega
                    have e0 : (0 : Int) ≤ (TT : Int) - (j : Int) := by omega
                    have e1 : (TT : Int) - (j : Int) < (N : Int) := by omega
                    have e2 : ((TT : Int) - (j : Int)).toNat = TT - j := by omega
                    obtain ⟨xo, hxo⟩ : ∃ xo, (osx (ks.map (ow L')) TT (kk : Int) j)[TT - j]? = some xo := ⟨_, List.getElem?_eq_getElem (by rw [osx_len, HE.out.2.2.2.2.2.2.2.2.2.2.1]; omega)⟩
                    have hol : (osx (ks.map (ow L')) TT (kk : Int) j).length = N := by rw [osx_len, HE.out.2.2.2.2.2.2.2.2.2.2.1]
                    have ho := dmx.o
                    rw [hol] at ho
                    obtain ⟨z1, z2⟩ := num_at ho hol hxo
                    have dm2 := dmx.setO hol (TT - j) (kk : Int) (by omega)
                    have HJ := hide (And.intro dm2 kx)
                    clear dmx kx bx hxo hol ho dm2
                    go_wp2
                    exact ⟨⟨j + 1, by go_num, by omega, hide ⟨HJ.out.1, HJ.out.2.andSet _ _ (.inr rfl)⟩⟩, by simp [intOf]; omega⟩
                  · have hge : ¬ (j : Int) < (q : Int) := by omega
                    obtain rfl : q = j := by omega
                    obtain ⟨be, dme, hsge, kwe, inv', md, less, sgv, stk, hox, hosl, hown7, st, hown, hobb⟩ := HE.out
                    have hD := HDD.out
                    have hne3 : ∀ {g : Nat} {c : Array Value} {t : TypeId}, we.heap[g]? = some (.cells c t (0, 0)) → t ≠ 3 → ¬ (g = ob) := fun {g c t} hg ht e => by
                      rw [e, hobb] at hg
                      cases hg
                      exact ht rfl
                    have hsgx := own_keep hsge (w' := wr) (fun g e => by
                      obtain ⟨cc, hcc⟩ := own_obj hsge e
                      exact kx.block g (blk_lt hcc) (hne3 hcc (by decide)))
                    have hrowx := own_keep hown7 (w' := wr) (fun g e => by
                      obtain ⟨cc, hcc⟩ := own_obj hown7 e
                      exact kx.block g (blk_lt hcc) (hne3 hcc (by decide)))
                    have kwx : Kp Nu w wr := kwe.trans kx (fun g hg e => by have e2 : g = ob := e; omega)
                    have CU := cut40 wr (.slice la ln lc) L' lo sg.hi (kk : Int) (Sgs.of_own (B := w.heap.size) (by rw [hD.ll]; exact hsgx) hD.inv.tab.sgb) (by have := hD.ll; have := hD.l8; omega) ⟨hlo0, by omega⟩ ⟨by omega, hhi1⟩
                    rw [cut_asg hD.inv.tab hlo0 hloh hhi1 hk0 hkk1 hown] at CU
                    have hal := asg_len hD.inv.tab hlo0 hloh hhi1 hk0 hkk1
                    have HF := hide (And.intro dmx (And.intro bx (And.intro hrowx (And.intro kwx hal))))
                    clear be dme hsge kwe inv' md less sgv stk hox hosl hown7 st hown hobb hD hne3 hsgx hrowx kwx hal dmx kx bx
                    go_wp2_with fail
                    refine CU.mono ?_; rintro e wy ⟨u', rfl, hu, hky⟩
                    obtain ⟨ua, uc, rfl⟩ := own_slice hu
                    obtain ⟨dmx, bx, hrowx, kwx, hal⟩ := HF.out
                    obtain ⟨xg, xk, t3, hst, dmq, hsgq, kwq, enn⟩ := HX.out
                    have dmy := dmx.nu hky
                    have bxy := box2 bx hky
                    obtain ⟨_, _, _, _, a4⟩ := cell5 bxy
                    obtain ⟨a5, a6⟩ := num_at dmy.g dmy.lg xg
                    have dmG := dmy.setG g (x - (q : Int)) hgn
                    have kG := Kp.setCell wy ⟨w4.heap.size, g, none⟩ (.int .i64 (x - (q : Int)))
                    have hbg : wc.heap.size ≠ w4.heap.size := fun e => by
                      obtain ⟨cc, hcc⟩ := own_obj dmy.g (g := w4.heap.size) rfl
                      rw [← e, bxy] at hcc
                      cases hcc
                    have bxG := (kG.block wc.heap.size (blk_lt bxy) (fun e => hbg e)).trans bxy
                    obtain ⟨_, _, _, _, b4⟩ := cell5 bxG
                    obtain ⟨b5, b6⟩ := num_at dmG.t dmG.lt xk
                    have dmT := dmG.setT kk (y - (q : Int)) hkn
                    have wx1 : IntKind.i64.wrap (x - (q : Int)) = x - (q : Int) := by rw [IntKind.wrap_i64]; omega
                    have wy1 : IntKind.i64.wrap (y - (q : Int)) = y - (q : Int) := by rw [IntKind.wrap_i64]; omega
                    have HG := hide (And.intro dmT (And.intro hu (And.intro hky (And.intro hrowx (And.intro kwx hal)))))
                    obtain ⟨AL, eAL⟩ : ∃ AL, (asg L' lo sg.hi (kk : Int)).length = AL := ⟨_, rfl⟩
                    rw [eAL]
                    have HAL := hide eAL
                    clear CU dmx bx hrowx kwx hal xg xk t3 hst dmq hsgq kwq enn dmy bxy dmG kG hbg bxG dmT hu hky eAL
                    go_wp2_with fail
                    go_region
                    go_wp2_with fail
                    go_region
                    go_wp2
                    obtain ⟨dmT, hu, hky, hrowx, kwx, hal⟩ := HG.out
                    obtain ⟨be, dme, hsge, kwe, inv', md, less, sgv, stk, hox, hosl, hown7, st, hown, hobb⟩ := HE.out
                    have hD := HDD.out
                    have hbnd := hD.bnd
                    have hsp := Pn.sp_nonneg σ'.gv
                    have hks := HU.out.2.2.1
                    have hAL := HAL.out
                    have hl8 := hD.l8
                    have hll := hD.ll
                    have kset : Kp (fun g => g = w4.heap.size ∨ g = w5.heap.size) wy (((wy.setCell ⟨w4.heap.size, g, none⟩ (.int .i64 (x - (q : Int)))).setCell ⟨w5.heap.size, kk, none⟩ (.int .i64 (y - (q : Int)))).drew.drew) := (((Kp.refl (fun g => g = w4.heap.size ∨ g = w5.heap.size) wy).andSet ⟨w4.heap.size, g, none⟩ _ (.inr (.inl rfl))).andSet ⟨w5.heap.size, kk, none⟩ _ (.inr (.inr rfl))).drew.drew
                    obtain ⟨c4, hc4⟩ := own_obj HF.out.1.g (g := w4.heap.size) rfl
                    obtain ⟨c5, hc5⟩ := own_obj HF.out.1.t (g := w5.heap.size) rfl
                    have hc4y := box2 hc4 hky
                    have hc5y := box2 hc5 hky
                    have hn45 : ∀ {g : Nat} {c : Array Value} {t : TypeId}, wy.heap[g]? = some (.cells c t (0, 0)) → t ≠ 3 → ¬ (g = w4.heap.size ∨ g = w5.heap.size) := fun {g c t} hg ht e => by
                      rcases e with e | e
                      · rw [e, hc4y] at hg; cases hg; exact ht rfl
                      · rw [e, hc5y] at hg; cases hg; exact ht rfl
                    refine ⟨⟨i + 1, AL, ua, some ⟨g3, 0, none⟩, uc, cap3, rfl, rfl, by go_num, by omega, hide ⟨ms ++ [⟨(g : Int), (kk : Int), lo, sg.hi, (q : Int)⟩], σ', asg L' lo sg.hi (kk : Int), hD.stp.snoc st, inv', by rw [List.length_append, hD.len]; rfl, by omega, fun m hm => ?_, ?_, ?_, ?_, hAL, by omega, ?_, Nat.le_refl _⟩⟩, by simp [intOf]; omega⟩
                    · rcases List.mem_append.1 hm with hm | hm
                      · exact hD.fit m hm
                      · simp only [List.mem_singleton] at hm
                        rw [hm]; exact md.mvb
                    · rw [cellsMs_snoc]
                      have hrowy := own_keep hrowx (fun g e => hky.block g (own_lt hrowx e) (fun h => h))
                      exact own_keep hrowy (fun g e => by
                        obtain ⟨cc, hcc⟩ := own_obj hrowy e
                        exact kset.block g (blk_lt hcc) (hn45 hcc (by decide)))
                    · rw [sgv, stk, ← hox]
                      exact dmT.nu ((Kp.refl Nu _).drew.drew)
                    · rw [hAL] at hu
                      have h0 := own_base hu kwx.size
                      exact own_keep h0 (fun g e => by
                        obtain ⟨cc, hcc⟩ := own_obj h0 e
                        exact kset.block g (blk_lt hcc) (hn45 hcc (by decide)))
                    · exact (kwx.andNu hky).trans kset (fun g' hg' e => by
                        have h1 : g' = w4.heap.size ∨ g' = w5.heap.size := e
                        have := H4.out.1.size
                        omega)
end Go.Proofs.Ytbifmcadllilhaa.Rg
