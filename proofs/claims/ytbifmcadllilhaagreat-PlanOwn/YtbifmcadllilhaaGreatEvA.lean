import Derived.Test.YtbifmcadllilhaaGreatQuA
import Derived.Test.YtbifmcadllilhaaGreatQuE
import Derived.Test.YtbifmcadllilhaaGreatRgL
import Derived.Test.YtbifmcadllilhaaGreatPwB
import Derived.Test.YtbifmcadllilhaaGreatPvC
import Derived.Test.YtbifmcadllilhaaGreatPwE
namespace Go.Proofs.YtbifmcadllilhaaGreat.Rg
open Go.RowKit Go.Shelf Go.Sort
open Go.Proofs.YtbifmcadllilhaaGreat.It
set_option linter.unusedVariables false
/-- a row of hosts -/
structure Dr8 (w : World) (B g n c : Nat) (l : List Int) : Prop where
  own : w.ownsRow B 36 1 (.slice (some ⟨g, 0, none⟩) n c) n (ucs8 l)
  len : l.length = n
theorem Dr8.at_ {w : World} {B g n c : Nat} {l : List Int} (h : Dr8 w B g n c l) {k : Nat} (hk : k < n) : w.cell? ⟨g, k, none⟩ = some (.int .u8 (gt l k)) ∧ w.frozen? ⟨g, k, none⟩ = false := by
  have hl := h.len
  have ho := h.own
  have e : (ucs8 l).length = n := by rw [ucs8_len]; exact hl
  rw [← e] at ho
  have hi : (ucs8 l)[k]? = some (.int .u8 (gt l k)) := by unfold ucs8; rw [List.getElem?_map, gt_get (by omega)]; rfl
  obtain ⟨r, cap, e2, _, h1, cur, h2⟩ := row1_at ho hi
  simp only [Value.slice.injEq, Option.some.injEq, Addr.mk.injEq, and_true] at e2
  obtain ⟨rfl, _⟩ := e2
  exact ⟨h1, free3 h2 k⟩
theorem Dr8.set {w : World} {B g n c : Nat} {l : List Int} (h : Dr8 w B g n c l) {k : Nat} (hk : k < n) (x : Int) : Dr8 (w.setCell ⟨g, k, none⟩ (.int .u8 x)) B g n c (l.set k x) := by
  refine ⟨?_, by rw [List.length_set]; exact h.len⟩
  have e : ucs8 (l.set k x) = (ucs8 l).set k (.int .u8 x) := by unfold ucs8; rw [List.map_set]
  rw [e]
  exact own_put h.own k _ (by rw [ucs8_len, h.len]; exact hk)
theorem Dr8.nu {w w' : World} {B g n c : Nat} {l : List Int} (h : Dr8 w B g n c l) (k : Kp Nu w w') : Dr8 w' B g n c l := ⟨own_keep h.own (fun g e => k.block g (own_lt h.own e) (fun h => h)), h.len⟩
theorem Dr.base {w : World} {B B' g n c : Nat} {l : List Int} (h : Dr w B g n c l) (hb : B' ≤ B) : Dr w B' g n c l := ⟨own_base h.own hb, h.len⟩
theorem OwT.base {w : World} {B B' pb g c D : Nat} {o : Nat → Int} {t : List Int} (h : OwT w B pb g c D o t) (hb : B' ≤ B) : OwT w B' pb g c D o t := ⟨⟨own_base h.tr.own hb, h.tr.len, h.tr.ne, h.tr.wid, h.tr.row⟩, h.mxd, h.who⟩
set_option maxRecDepth 100000 in
set_option maxHeartbeats 1000000 in
theorem field35 (w : World) (B b : Nat) (lim : Int) (v u : Value) (L : List Sg) (ms : List Mv) (hT : Tb B w b lim v L) (hu : Mvs w u ms) (hl : ms.length ≤ 4096) (hMB : ∀ m ∈ ms, MvB m) :
    Calls Tryz.prog 33 #[.pointer (some ⟨b, 0, none⟩), u] w fun e w' => ∃ fb, e = .returned (.pointer (some ⟨fb, 0, none⟩)) ∧ Kp Nu w w' ∧ ∃ sg ns cs pb g c D t S o, Fd w' w.heap.size fb sg ns cs pb S ∧ OwT w' w.heap.size pb g c D o t ∧ Sts S ∧ (∀ x, x ∈ S ↔ x ∈ L.map (·.lo) ++ ms.flatMap mst) ∧ (∀ j, j < ns → o j = ow L (gt S j)) ∧ ns ≤ 16384 ∧ ns ≤ 2 ^ D ∧ 2 ^ D ≤ 2 * ns := by
  have mixed : Tryz.prog.follows .mixedOrders = true := by kernel_rfl
  have ST := starts59 w B b lim v u L ms hT hu hl
  obtain ⟨z0, hzi, hz0, hz1, hz2⟩ := info_parts info57z
  obtain ⟨a1, c1, rfl, hdm⟩ := id hu
  clear hdm hu
  have HT := hide hT
  clear hT
  generalize ms.length = N at *
  go_enter Tryz.func33, Tryz.ntmps33
  go_wp2_with fail
  refine ST.mono ?_; rintro e w2 ⟨sg, ns, cs, rfl, hn0, hn1, S, hD, hinc, hmem, hk2⟩
  have HS := hide (And.intro hD (And.intro hinc (And.intro hmem hk2)))
  have hs2 := hk2.size
  clear ST hD hinc hmem hk2
  go_wp2_with (at_make; refine wpList_make_full _ rfl _ _ 112 rfl w2.heap.size 36 z0 _ 1 Tryz.underlying112 hzi hz0 hz1 _ _ _ _ ns rfl rfl rfl rfl (by rw [hz2]; omega) (by unfold maxLen; omega) (Nat.le_refl _) ?_; intro w4 hrow4 hgr4)
  obtain ⟨hD, hinc, hmem, hk2⟩ := HS.out
  rw [zero_row8] at hrow4
  have k4 : Kp Nu w2 w4 := (Kp.of_grown hgr4).mono (fun _ _ e => by cases e)
  have R4 : Dr8 w4 w2.heap.size w2.heap.size ns ns (List.replicate ns 0) := ⟨hrow4, by simp⟩
  have hsg2 : sg < w2.heap.size := own_lt hD.own rfl
  have tab := HT.out.tab
  have hSt : Sts S := by
    have hlS := hD.len
    have h0 : (0 : Int) ∈ S := by
      rw [hmem 0]
      obtain ⟨s, hs⟩ : ∃ s, L[0]? = some s := ⟨_, List.getElem?_eq_getElem tab.ne⟩
      have hc := tab.cov
      cases L with
      | nil => simp at hs
      | cons x r => exact List.mem_append_left _ (by simp; exact .inl hc.1.symm)
    have bnd : ∀ x ∈ S, 0 ≤ x ∧ x < 18446744073709551616 := fun x hx => by
      rcases List.mem_append.1 ((hmem x).1 hx) with h | h
      · obtain ⟨s, hs, rfl⟩ := List.mem_map.1 h
        have := cov_mem tab.cov s hs
        omega
      · obtain ⟨m, hm, hx⟩ := List.mem_flatMap.1 h
        have hb := hMB m hm
        have b1 := hb.l0
        have b2 := hb.l1
        have b3 := hb.h0
        unfold mst at hx
        split at hx
        · simp only [List.mem_cons, List.not_mem_nil, or_false] at hx
          omega
        · simp only [List.mem_cons, List.not_mem_nil, or_false] at hx
          omega
    have top : ∀ i, i < S.length → 0 ≤ gt S i ∧ gt S i < 18446744073709551616 := fun i hi => bnd _ (List.mem_of_getElem? (gt_get hi))
    refine ⟨by omega, ?_, fun i j h1 h2 => hinc i j h1 (by omega), fun i hi => (top i hi).2⟩
    obtain ⟨i, i1, i2⟩ := gt_mem.1 h0
    cases i with
    | zero => exact i2
    | succ i =>
      have a := hinc 0 (i + 1) (by omega) (by omega)
      have b := (top 0 (by omega)).1
      omega
  have H4 := hide (And.intro hD (And.intro hmem (And.intro hk2 (And.intro k4 (And.intro R4 hSt)))))
  clear hD hinc hmem hk2 k4 R4 hSt hrow4 hgr4 HS tab
  go_loopw [17] (fun iv wr => ∃ i : Nat, iv = .int .i64 (i : Int) ∧ i ≤ ns ∧ Hid (∃ l, Dr8 wr w2.heap.size w2.heap.size ns ns l ∧ (∀ j, gt l j ≠ 255) ∧ (∀ j, j < i → gt l j = ow L (gt S j)) ∧ Kp Nu w2 wr)) (fun iv _ => ns - (intOf iv).toNat)
  case atStart => exact ⟨0, rfl, Nat.zero_le _, hide ⟨_, H4.out.2.2.2.2.1, fun j => by rw [gt_replicate]; omega, fun j hj => by omega, H4.out.2.2.2.1⟩⟩
  case round =>
    obtain ⟨i, rfl, hi1, hI⟩ := hrel
    have hi0 : (0 : Int) ≤ (i : Int) := by omega
    obtain ⟨l, R, hne, heq, hk⟩ := hI.out
    obtain ⟨hD, hmem, hk2, k4, R4, hSt⟩ := H4.out
    by_cases hlt : i < ns
    · have hltI : (i : Int) < (ns : Int) := by omega
      have eti : (i : Int).toNat = i := by omega
      have hlS := hD.len
      obtain ⟨x1, _⟩ := (hD.nu hk).at_ (k := i) hlt
      have LK := lookup_any ((HT.out.nu hk2).nu hk) (gt S i) (hSt.ge (by omega)) (hSt.top i (by omega))
      have h16 := HT.out.tab.ow16 (hSt.ge (i := i) (by omega)) (hSt.top i (by omega))
      have HQ := hide (And.intro R (And.intro hne (And.intro heq (And.intro hk h16))))
      clear hI R hne heq hk hD hmem hk2 k4 R4 hSt h16
      go_wp2_with fail
      refine LK.mono ?_; rintro e w5 ⟨rfl, hk5⟩
      obtain ⟨R, hne, heq, hk, h16⟩ := HQ.out
      have R5 := R.nu hk5
      obtain ⟨y1, y2⟩ := R5.at_ (k := i) hlt
      have H5 := hide (And.intro R5 hk5)
      clear R hne heq hk h16 R5 hk5 LK
      go_wp2
      obtain ⟨R, hne, heq, hk, h16⟩ := HQ.out
      obtain ⟨R5, hk5⟩ := H5.out
      have hll := R5.len
      refine ⟨⟨i + 1, by go_num, by omega, hide ⟨_, R5.set (k := i) hlt _, fun j => ?_, fun j hj => ?_, (hk.andNu hk5).andSet _ _ (.inl (Nat.le_refl _))⟩⟩, by simp [intOf]; omega⟩
      · rw [gt_set _ _ (by omega)]
        split
        · omega
        · exact hne j
      · rw [gt_set _ _ (by omega)]
        by_cases e : j = i
        · rw [if_pos e, e]
        · rw [if_neg e]; exact heq j (by omega)
    · have hltI : ¬ (i : Int) < (ns : Int) := by omega
      have ei : i = ns := by omega
      have OW := owners61 wr w2.heap.size w2.heap.size ns ns l R.own R.len hn0 (by omega) hne
      have HQ := hide (And.intro heq (And.intro hk ei))
      clear hI R hne heq hk hD hmem hk2 k4 R4 hSt ei
      go_wp2_with fail
      refine OW.mono ?_; rintro e w5 ⟨pb, rfl, g, c, D, t, hO, hd1, hd2, hk5⟩
      have H5 := hide (And.intro hO (And.intro hd1 (And.intro hd2 hk5)))
      clear hO hd1 hd2 hk5 OW
      go_wp2
      go_ret
      obtain ⟨hD, hmem, hk2, k4, R4, hSt⟩ := H4.out
      obtain ⟨heq, hk, ei⟩ := HQ.out
      obtain ⟨hO, hd1, hd2, hk5⟩ := H5.out
      have kA := Kp.alloc w5 (.cells #[.slice (some ⟨sg, 0, none⟩) ns cs, .pointer (some ⟨pb, 0, none⟩)] 117) Nu
      have ks := (hk.andNu hk5).andNu kA
      subst ei
      exact ⟨w5.heap.size, rfl, hk2.andNu ks, sg, i, cs, pb, g, c, D, t, S, fun q => gt l q, ⟨heap_alloc_new w5 _, hD.nu ks⟩, (hO.nu kA).base (Nat.le_trans hs2 hk.size), hSt, hmem, heq, hn1, hd1, hd2⟩
end Go.Proofs.YtbifmcadllilhaaGreat.Rg
namespace Go.Proofs.YtbifmcadllilhaaGreat.Rg
open Go.RowKit Go.Shelf Go.Sort
open Go.Proofs.YtbifmcadllilhaaGreat.It
set_option linter.unusedVariables false
theorem pl_nomove : ∀ {ms : List Mv} {L : List Sg}, (∃ m ∈ ms, ¬ Mok m) → pl L ms = none
  | [], L, ⟨m, h, _⟩ => by cases h
  | x :: r, L, ⟨m, hm, hn⟩ => by
    by_cases c : Mok x ∧ Own L x.lo x.hi x.f
    · rw [pl_yes c]
      rcases List.mem_cons.1 hm with e | e
      · rw [e] at hn; exact absurd c.1 hn
      · exact pl_nomove ⟨m, e, hn⟩
    · exact pl_no c
theorem rk_len (S : List Int) (o : Nat → Int) (i : Nat) : (rk S o i).length ≤ i := by
  unfold rk
  have := lays_le ((List.range i).map (prt S o)) []
  simpa using this
theorem Mvs.mvb {w : World} {u : Value} {ms : List Mv} (h : Mvs w u ms) : ∀ m ∈ ms, MvB m := fun m hm => by
  obtain ⟨a, cap, h0, h1⟩ := h
  obtain ⟨i, hi⟩ := List.getElem?_of_mem hm
  obtain ⟨b, o, _, h2⟩ := h1 i m hi
  exact h2.fit
/-- what stands while the moves are played -/
structure Pf (w wr : World) (fb sg ns cs pb g c D : Nat) (S : List Int) (L : List Sg) (ms : List Mv) (i : Nat) : Prop where
  fd : Fd wr w.heap.size fb sg ns cs pb S
  ot : ∃ o t Li, OwT wr w.heap.size pb g c D o t ∧ Fits S o Li ∧ Tab Li ∧ pl L ms = pl Li (ms.drop i)
  kp : Kp Nu w wr
set_option maxRecDepth 100000 in
set_option maxHeartbeats 1000000 in
theorem play15 (w : World) (u k : Value) (M : List Sg) (ms : List Mv) (hM : Sgs w u M) (hlen : (M.length : Int) ≤ 5864062014634) (hk : Mvs w k ms) (hkl : ms.length ≤ 4096) :
    Calls Tryz.prog 9 #[u, k] w fun e w' => ∃ v c, e = .returned (.tuple #[v, .int .i64 c]) ∧ PlR w w' M ms v c ∧ Kp Nu w w' := by
  have mixed : Tryz.prog.follows .mixedOrders = true := by kernel_rfl
  have LO := Load_any w u M hM.rz hM.sgb (by omega) 8192
  obtain ⟨ad, cap, hu⟩ := hM.slice
  obtain ⟨a1, c1, rfl, hdm⟩ := id hk
  clear hdm
  obtain ⟨N, eN⟩ : ∃ N, ms.length = N := ⟨_, rfl⟩
  have HU := hide (And.intro hM (And.intro hk eN))
  rw [eN] at hkl ⊢
  have hNI : (N : Int) ≤ 4096 := by omega
  generalize M.length = NM at hu
  subst hu
  clear hM hk eN hlen
  go_enter Tryz.func9, Tryz.ntmps9
  go_wp2_with fail
  refine LO.mono ?_; rintro e w2 ⟨p, c, rfl, hL, hk2⟩
  have HL := hide (And.intro hL hk2)
  clear LO hk2
  rcases hL.ptr with ⟨rfl, hc⟩ | ⟨rfl, b, rfl⟩
  · have hcb : (c != 0) = true := by simpa using hc
    have HC := hide hc
    clear hL hc
    go_wp2
    go_ret2
    exact ⟨_, _, rfl, .inl ⟨fun h => HC.out ((lrt_iff HL.out.1).2 h), rfl, rfl⟩, HL.out.2⟩
  · have hLd := (lrt_iff hL).1 rfl
    obtain ⟨vt, hTb⟩ : ∃ vt, Tb w.heap.size w2 b 8192 vt (lays [] M) := by
      rcases HL.out.1 with ⟨h0, _⟩ | ⟨_, i, ⟨h1, _⟩ | ⟨h1, _⟩ | ⟨_, _, _, _, _, b', v', h2, h3⟩⟩
      · exact absurd (by omega) h0
      · cases h1
      · cases h1
      · cases h2; exact ⟨v', h3⟩
    have CF := contains33 w2 (.slice a1 N c1) ms (by have h := HU.out.2.1; rw [HU.out.2.2] at h; exact h.nu HL.out.2) (by rw [HU.out.2.2]; exact hkl)
    have HT := hide (And.intro hTb hLd)
    clear hTb hLd hL
    go_wp2_with fail
    refine CF.mono ?_; rintro e w3 ⟨⟨bo, rfl, hbo⟩, hk3⟩
    have HB := hide (And.intro hbo hk3)
    clear CF hbo hk3
    cases bo with
    | true =>
      go_wp2
      go_ret2
      exact ⟨_, _, rfl, .inr (.inl ⟨HT.out.2, pl_nomove (HB.out.1.1 (by first | trivial | rfl)), rfl, rfl⟩), HL.out.2.andNu HB.out.2⟩
    | false =>
      have hall : ∀ m ∈ ms, Mok m := fun m hm => Classical.byContradiction (fun h => by have := HB.out.1.2 ⟨m, hm, h⟩; cases this)
      have FO := field35 w3 w.heap.size b 8192 vt (.slice a1 N c1) (lays [] M) ms (HT.out.1.nu HB.out.2) (by have h := HU.out.2.1; rw [HU.out.2.2] at h; exact (h.nu HL.out.2).nu HB.out.2) (by rw [HU.out.2.2]; exact hkl) HU.out.2.1.mvb
      have HA := hide hall
      clear hall
      go_wp2_with fail
      refine FO.mono ?_; rintro e w4 ⟨fb, rfl, hk4, sg, ns, cs, pb, g, cc, D, t, S, o, hF, hO, hS, hmem, ho, hns, hd1, hd2⟩
      clear FO
      have hs3 : w.heap.size ≤ w3.heap.size := (HL.out.2.andNu HB.out.2).size
      have P0 : Pf w w4 fb sg ns cs pb g cc D S (lays [] M) ms 0 := ⟨⟨hF.blk, hF.row.base hs3⟩, ⟨o, t, lays [] M, hO.base hs3, fun j k hj => by
          have hl := hF.row.len
          rw [ho j (by have := hj.lt; omega)]
          exact Fits.start hS HT.out.1.tab (fun s hs => (hmem _).2 (List.mem_append_left _ (List.mem_map.2 ⟨s, hs, rfl⟩))) j k hj, HT.out.1.tab, rfl⟩, (HL.out.2.andNu HB.out.2).andNu hk4⟩
      have HP := hide (And.intro P0 (And.intro hS hmem))
      clear hF hO hS hmem ho hk4 P0
      go_wp2
      have hD8 : 2 * 2 ^ D ≤ 1000000 := by omega
      go_loopw [25] (fun iv wr => ∃ i : Nat, iv = .int .i64 (i : Int) ∧ i ≤ N ∧ Hid (Pf w wr fb sg ns cs pb g cc D S (lays [] M) ms i)) (fun iv _ => N - (intOf iv).toNat)
      case atStart => exact ⟨0, rfl, Nat.zero_le _, hide HP.out.1⟩
      case round =>
        obtain ⟨i, rfl, hi1, hI⟩ := hrel
        have hi0 : (0 : Int) ≤ (i : Int) := by omega
        by_cases hlt : i < N
        · have hltI : (i : Int) < (N : Int) := by omega
          obtain ⟨m, hm⟩ : ∃ m, ms[i]? = some m := ⟨_, List.getElem?_eq_getElem (by rw [HU.out.2.2]; exact hlt)⟩
          obtain ⟨hF, ⟨o', t', Li, hO, hFi, hTa, hpl⟩, hkp⟩ := hI.out
          obtain ⟨_, hS, hmem⟩ := HP.out
          have hms : Mvs wr (.slice a1 N c1) ms := by have h := HU.out.2.1; rw [HU.out.2.2] at h; exact h.nu hkp
          obtain ⟨bm, om, rfl, hat⟩ := hms.at_ hm
          obtain ⟨x0, x1, x2, x3, x4, hf⟩ := hat
          have eti : (i : Int).toNat = i := by omega
          have hdr : ms.drop i = m :: ms.drop (i + 1) := by
            have hlt' := (List.getElem?_eq_some_iff.1 hm).1
            rw [List.drop_eq_getElem_cons hlt', (List.getElem?_eq_some_iff.1 hm).2]
          rw [hdr] at hpl
          have hok := HA.out m (List.mem_of_getElem? hm)
          obtain ⟨a, ha⟩ := hS.part hf.l0 hf.l1
          obtain ⟨b', hb'⟩ := hS.part hf.h0 hf.h1
          have hloS : m.lo ∈ S := (hmem _).2 (List.mem_append_right _ (List.mem_flatMap.2 ⟨m, List.mem_of_getElem? hm, by unfold mst; split <;> simp⟩))
          have hhiS : m.hi + 1 ∈ S ∨ m.hi = 18446744073709551615 := by
            by_cases c : m.hi < 18446744073709551615
            · exact .inl ((hmem _).2 (List.mem_append_right _ (List.mem_flatMap.2 ⟨m, List.mem_of_getElem? hm, by unfold mst; rw [if_pos c]; simp⟩)))
            · exact .inr (by have := hf.h1; omega)
          have ea := hS.at_lo ha hloS
          have eb := hS.at_hi hb' hhiS
          have hab : a ≤ b' := by
            rcases Nat.lt_or_ge b' a with c | c
            · have h1 := hS.nxle c ha.lt
              have h2 := hok.1
              omega
            · exact c
          have hown := hFi.own hS (x := m.f) hf.l0 hf.h1 ea ha.lt eb hb'.lt
          have hgive := hFi.give hS hTa (x := m.t) hf.l0 hok.1 hf.h1 hf.t0 hok.2.2.1 ea ha.lt eb hb'.lt
          have hT2 := (asg_facts hTa hf.l0 hok.1 hf.h1 hf.t0 hok.2.2.1).1
          obtain ⟨w5, hw5⟩ : ∃ w5, wr.alloc (.cells #[.int .u8 m.f, .int .u8 m.t, .int .u64 m.lo, .int .u64 m.hi, .int .i64 m.n] 41) = w5 := ⟨_, rfl⟩
          have k5 : Kp Nu wr w5 := by rw [← hw5]; exact Kp.alloc _ _ _
          have bM : w5.heap[wr.heap.size]? = some (.cells #[.int .u8 m.f, .int .u8 m.t, .int .u64 m.lo, .int .u64 m.hi, .int .i64 m.n] 41 (0, 0)) := by rw [← hw5]; exact heap_alloc_new wr _
          obtain ⟨y0, y1, y2, y3, y4⟩ := cell5 bM
          have PL := play36 w5 w.heap.size fb sg ns cs pb w.heap.size g cc D S o' t' (hF.nu k5) (hO.nu k5) hS hd1 hD8 m hok hf a b' ha hb' hab
          have HQ := hide (And.intro (hF.nu k5) (And.intro (hO.nu k5) (And.intro hpl (And.intro hown (And.intro hgive (And.intro hT2 (And.intro hok (hkp.andNu k5))))))))
          clear hI hF hO hFi hTa hpl hkp hS hmem hms hm hf hdr hok ha hb' hloS hhiS ea eb hab hown hgive hT2 k5 bM
          go_wp2_with fail
          refine PL.mono ?_; rintro e w6 ⟨bo, rfl, hP, hk6⟩
          have H6 := hide (And.intro hP hk6)
          clear PL hP hk6
          cases bo with
          | false =>
            go_wp2
            go_ret2
            obtain ⟨hF, hO, hpl, hown, hgive, hT2, hok, hkp⟩ := HQ.out
            obtain ⟨hP, hk6⟩ := H6.out
            have hgw : w.heap.size ≤ g := (hO.tr.own.lt g rfl).1
            rcases hP with ⟨h, _⟩ | ⟨_, hno⟩
            · cases h
            · exact ⟨_, _, rfl, .inr (.inl ⟨HT.out.2, hpl.trans (pl_no (fun h => hno (hown.1 h.2))), rfl, rfl⟩), hkp.trans hk6 (fun x hx e => by omega)⟩
          | true =>
            go_wp2
            obtain ⟨hF, hO, hpl, hown, hgive, hT2, hok, hkp⟩ := HQ.out
            obtain ⟨hP, hk6⟩ := H6.out
            have hgw : w.heap.size ≤ g := (hO.tr.own.lt g rfl).1
            rcases hP with ⟨_, hyes, t2, hO2⟩ | ⟨h, _⟩
            · have hfg : fb ≠ g := fun e => by
                obtain ⟨cur, h⟩ := own_obj hO.tr.own (g := g) rfl
                have := hF.blk
                rw [e, h] at this
                cases this
              have hsgg : sg ≠ g := fun e => by
                obtain ⟨cur, h⟩ := own_obj hO.tr.own (g := g) rfl
                obtain ⟨cur2, h2⟩ := own_obj hF.row.own (g := sg) rfl
                rw [e, h] at h2
                cases h2
              exact ⟨⟨i + 1, by go_num, by omega, hide ⟨⟨blk_kp hF.blk hk6 hfg, ⟨own_keep hF.row.own (fun x e => hk6.block x (own_lt hF.row.own e) (fun e2 => by simp [Value.ownBlock] at e; omega)), hF.row.len⟩⟩, ⟨_, t2, _, hO2, hgive, hT2, hpl.trans (pl_yes ⟨hok, hown.2 hyes⟩)⟩, hkp.trans hk6 (fun x hx e => by omega)⟩⟩, by simp [intOf]; omega⟩
            · cases h
        · have hltI : ¬ (i : Int) < (N : Int) := by omega
          obtain ⟨hF, ⟨o', t', Li, hO, hFi, hTa, hpl⟩, hkp⟩ := hI.out
          obtain ⟨_, hS, hmem⟩ := HP.out
          have hend : ms.drop i = [] := List.drop_eq_nil_of_le (by rw [HU.out.2.2]; omega)
          rw [hend] at hpl
          have SG := segments37 wr w.heap.size fb sg ns cs pb w.heap.size g cc D S o' t' hF hO hS hd1 hD8 (by omega)
          have hrk : rk S o' ns = Li := by rw [← hF.row.len]; exact rk_all hS hTa hFi
          have hll := rk_len S o' ns
          have hgw : w.heap.size ≤ g := (hO.tr.own.lt g rfl).1
          rw [hrk] at SG hll
          have HQ := hide (And.intro hpl (And.intro hkp (And.intro hll hgw)))
          clear hI hF hO hFi hTa hpl hkp hS hmem hend hrk hll hgw
          go_wp2_with fail
          refine SG.mono ?_; rintro e w6 ⟨v, rfl, ho6, hk6⟩
          have H6 := hide (And.intro ho6 hk6)
          obtain ⟨va, vc, hv⟩ := own_slice ho6
          subst hv
          clear SG ho6 hk6
          go_wp2
          go_ret2
          obtain ⟨hpl, hkp, hll, hgw⟩ := HQ.out
          obtain ⟨ho6, hk6⟩ := H6.out
          exact ⟨_, _, rfl, .inr (.inr ⟨HT.out.2, rfl, Li, hpl, by omega, own_base ho6 hkp.size⟩), hkp.trans hk6 (fun x hx e => by omega)⟩
end Go.Proofs.YtbifmcadllilhaaGreat.Rg
namespace Go.Proofs.YtbifmcadllilhaaGreat.Rg
open Go.RowKit Go.Shelf Go.Sort
set_option linter.unusedVariables false
theorem cnt_cons (x : Int) (os : List Int) (h : Nat) : Pn.cnt (x :: os) h = (if x = (h : Int) then 1 else 0) + Pn.cnt os h := by
  unfold Pn.cnt
  rw [List.filter_cons]
  by_cases e : x = (h : Int)
  · simp [e]; omega
  · simp [e]
/-- how the loads turn by a move -/
theorem cnt_move {f f' : Int → Int} {m : Mv} (hne : m.f ≠ m.t) : ∀ {ks : List Int}, (∀ x ∈ ks, f' x = if m.lo ≤ x ∧ x ≤ m.hi then m.t else f x) → (∀ x ∈ ks, m.lo ≤ x → x ≤ m.hi → f x = m.f) → ∀ h : Nat,
    Pn.cnt (ks.map f') h = Pn.cnt (ks.map f) h + (if m.t = (h : Int) then (ks.countP (inr m) : Int) else 0) - (if m.f = (h : Int) then (ks.countP (inr m) : Int) else 0)
  | [], _, _, h => by simp [Pn.cnt]
  | x :: r, h1, h2, h => by
    have ih := cnt_move hne (ks := r) (fun y hy => h1 y (by simp [hy])) (fun y hy => h2 y (by simp [hy])) h
    rw [List.map_cons, List.map_cons, cnt_cons, cnt_cons, ih, List.countP_cons]
    have e1 := h1 x (by simp)
    by_cases c : m.lo ≤ x ∧ x ≤ m.hi
    · have e2 := h2 x (by simp) c.1 c.2
      rw [if_pos c] at e1
      have hi : inr m x = true := by simp [inr, c]
      rw [hi, e1, e2]
      by_cases t1 : m.t = (h : Int)
      · have f1 : ¬ m.f = (h : Int) := fun e => hne (e.trans t1.symm)
        simp [t1, f1]; omega
      · by_cases f1 : m.f = (h : Int)
        · simp [t1, f1]; omega
        · simp [t1, f1]
    · rw [if_neg c] at e1
      have hi : inr m x = false := by simp [inr]; omega
      rw [hi, e1]
      simp
      omega
/-- how far the loads are from the targets -/
structure Off (N : Nat) (ks : List Int) (tg : Nat → Int) (L : List Sg) (σ : Sig) : Prop where
  lg : σ.gv.length = N
  lt : σ.tk.length = N
  each : ∀ (h : Nat) x y, σ.gv[h]? = some x → σ.tk[h]? = some y → (x = Pn.cnt (ks.map (ow L)) h - tg h ∧ 0 ≤ x ∧ y ≤ 0) ∨ (y = tg h - Pn.cnt (ks.map (ow L)) h ∧ 0 ≤ y ∧ x ≤ 0)
theorem off0 (N : Nat) (L : List Sg) (K : List Int) : Off N K (Pn.tgt (Pn.lds N (K.map (ow L)))) L (sg0 N L K) := by
  refine ⟨by simp [sg0], by simp [sg0], fun h x y hx hy => ?_⟩
  have hN : h < N := by
    have := (List.getElem?_eq_some_iff.1 hx).1
    simpa [sg0] using this
  have ex : x = Pn.cnt (K.map (ow L)) h - Pn.tgt (Pn.lds N (K.map (ow L))) h := by
    simp [sg0, hN] at hx; exact hx.symm
  have ey : y = Pn.tgt (Pn.lds N (K.map (ow L))) h - Pn.cnt (K.map (ow L)) h := by
    simp [sg0, hN] at hy; exact hy.symm
  by_cases c : 0 ≤ x
  · exact .inl ⟨ex, c, by omega⟩
  · exact .inr ⟨ey, by omega, by omega⟩
theorem Off.step {N : Nat} {ks : List Int} {tg : Nat → Int} {L : List Sg} {σ σ' : Sig} {most : Int} {m : Mv} (hO : Off N ks tg L σ) (hI : Inv ks L σ) (hr : Ris ks) (hk : ∀ x ∈ ks, 0 ≤ x ∧ x < 18446744073709551616) (hm : 1 ≤ most) (hs : Stp ks most σ m σ') : Off N ks tg (asg L m.lo m.hi m.t) σ' := by
  have md := (hI.step hr hk hm hs).2
  have af := (asg_facts hI.tab md.l0 md.lh md.h1 md.t0 md.t1).2.1
  have gd := (Stp.good hI hr hk hm hs (fun _ => False) (fun x _ _ h => h.elim)).1
  have cm := cnt_move (f := ow L) (f' := ow (asg L m.lo m.hi m.t)) (m := m) md.ne (ks := ks) (fun x hx => af x (hk x hx).1 (hk x hx).2) (fun x hx h1 h2 => md.own x h1 h2)
  have cn := gd.cnt
  have n1 := gd.n1
  obtain ⟨g, k, x, y, P0, p, n, a1, a2, a3, a4, a5, a6, a7, a8, a9, a10, a11, a12⟩ := hs
  have hx := gst_pos a1 a3
  have hy := gst_pos a2 a4
  have hle : m.n ≤ (n : Int) := by
    rcases a10 with ⟨b1, b2, _⟩ | ⟨b1, b2, _⟩
    · omega
    · omega
  have hmx : m.n ≤ x ∧ m.n ≤ y := by omega
  have hgk : g ≠ k := fun e => md.ne (by rw [a7, a8, e])
  have lg := hO.lg
  have lt := hO.lt
  have hgl : g < σ.gv.length := (List.getElem?_eq_some_iff.1 a3).1
  have hkl : k < σ.tk.length := (List.getElem?_eq_some_iff.1 a4).1
  refine ⟨by rw [a11, List.length_set]; exact lg, by rw [a12, List.length_set]; exact lt, fun h x' y' hx' hy' => ?_⟩
  rw [a11, List.getElem?_set] at hx'
  rw [a12, List.getElem?_set] at hy'
  have c := cm h
  obtain ⟨C', hC'⟩ : ∃ C', Pn.cnt (ks.map (ow (asg L m.lo m.hi m.t))) h = C' := ⟨_, rfl⟩
  rw [hC'] at c ⊢
  rw [cn, a7, a8] at c
  by_cases eg : g = h
  · subst eg
    rw [if_pos rfl, if_pos hgl] at hx'
    rw [if_neg (fun e => hgk e.symm)] at hy'
    simp only [Option.some.injEq] at hx'
    rw [if_neg (by omega), if_pos rfl] at c
    rcases hO.each g x y' a3 hy' with ⟨q1, q2, q3⟩ | ⟨q1, q2, q3⟩
    · exact .inl ⟨by omega, by omega, q3⟩
    · omega
  · rw [if_neg eg] at hx'
    by_cases ek : k = h
    · subst ek
      rw [if_pos rfl, if_pos hkl] at hy'
      simp only [Option.some.injEq] at hy'
      rw [if_pos rfl, if_neg (by omega)] at c
      rcases hO.each k x' y hx' a4 with ⟨q1, q2, q3⟩ | ⟨q1, q2, q3⟩
      · omega
      · exact .inr ⟨by omega, by omega, q3⟩
    · rw [if_neg ek] at hy'
      rw [if_neg (by omega), if_neg (by omega)] at c
      rcases hO.each h x' y' hx' hy' with ⟨q1, q2, q3⟩ | ⟨q1, q2, q3⟩
      · exact .inl ⟨by omega, q2, q3⟩
      · exact .inr ⟨by omega, q2, q3⟩
theorem Stp.lens {ks : List Int} {most : Int} {σ σ' : Sig} {m : Mv} (hs : Stp ks most σ m σ') : σ'.gv.length = σ.gv.length := by
  obtain ⟨g, k, x, y, P0, p, n, a1, a2, a3, a4, a5, a6, a7, a8, a9, a10, a11, a12⟩ := hs
  rw [a11, List.length_set]
/-- the moves may be played, and where they lead -/
theorem Stps.played {N : Nat} {ks : List Int} {tg : Nat → Int} {most : Int} (hr : Ris ks) (hk : ∀ x ∈ ks, 0 ≤ x ∧ x < 18446744073709551616) (hm : 1 ≤ most) {σ σ1 : Sig} {ms : List Mv} (h : Stps ks most σ ms σ1) : ∀ {L : List Sg}, Inv ks L σ → Off N ks tg L σ → (∀ x, 0 ≤ x → x < 18446744073709551616 → ow L x < (N : Int)) →
    ∃ R, pl L ms = some R ∧ Inv ks R σ1 ∧ Off N ks tg R σ1 ∧ (∀ x, 0 ≤ x → x < 18446744073709551616 → ow R x < (N : Int)) := by
  induction h with
  | nil σ => exact fun hI hO hN => ⟨_, rfl, hI, hO, hN⟩
  | @cons σ σ2 σ3 m ms a _ ih =>
    intro L hI hO hN
    obtain ⟨hI2, md⟩ := hI.step hr hk hm a
    have hO2 := hO.step hI hr hk hm a
    have af := (asg_facts hI.tab md.l0 md.lh md.h1 md.t0 md.t1).2.1
    have gd := (Stp.good hI hr hk hm a (fun _ => False) (fun x _ _ h => h.elim)).1
    have lg := hO.lg
    have t1 := gd.t1
    rw [lg] at t1
    obtain ⟨R, r1, r2, r3, r4⟩ := ih hI2 hO2 (fun x h0 h1 => by
      rw [af x h0 h1]
      split
      · exact t1
      · exact hN x h0 h1)
    exact ⟨R, by rw [pl_yes ⟨⟨md.lh, md.f1, md.t1, md.ne⟩, md.own⟩]; exact r1, r2, r3, r4⟩
/-- behind all moves the loads are the targets -/
theorem Off.fin {N : Nat} {ks : List Int} {tg : Nat → Int} {L : List Sg} {σ : Sig} (hO : Off N ks tg L σ) (hI : Inv ks L σ) (hf : Fin σ) {h : Nat} (hN : h < N) : Pn.cnt (ks.map (ow L)) h = tg h := by
  have hg : ∀ (j : Nat) y, σ.gv[j]? = some y → y ≤ 0 := fun j y hy => by
    rcases Int.lt_or_le 0 y with c | c
    · obtain ⟨g, z, e, _⟩ := Pn.gst_some hy c hf
      omega
    · exact c
  have s0 := Pn.sp_none hg
  have s1 := hI.bal
  have ht : ∀ (j : Nat) y, σ.tk[j]? = some y → y ≤ 0 := fun j y hy => by
    rcases Int.lt_or_le 0 y with c | c
    · have := Pn.sp_ge hy c; omega
    · exact c
  obtain ⟨x, hx⟩ : ∃ x, σ.gv[h]? = some x := ⟨_, List.getElem?_eq_getElem (by rw [hO.lg]; exact hN)⟩
  obtain ⟨y, hy⟩ : ∃ y, σ.tk[h]? = some y := ⟨_, List.getElem?_eq_getElem (by rw [hO.lt]; exact hN)⟩
  have q1 := hg h x hx
  have q2 := ht h y hy
  rcases hO.each h x y hx hy with ⟨e1, e2, e3⟩ | ⟨e1, e2, e3⟩
  · omega
  · omega
/-- what the moves of a layout that may be come to -/
structure EvR (k : List Int) (N : Nat) (L : List Sg) (ms : List Mv) (R : List Sg) : Prop where
  pl : pl L ms = some R
  tab : Tab R
  hs : ∀ s ∈ R, 0 ≤ s.h ∧ s.h < (N : Int)
  ld : ∀ h, h < N → Pn.cnt (k.map (ow R)) h = Pn.tgt (Pn.lds N (k.map (ow L))) h
  sum : (Pn.lds N (k.map (ow R))).sum = (k.length : Int)
theorem ev_of {S : List Sg} {k : List Int} {most : Int} {N : Nat} {ms : List Mv} {σ : Sig} (hS : Good S) (hb : ∀ s ∈ S, 0 ≤ s.h ∧ s.h < (N : Int)) (n1 : 1 ≤ N) (n16 : N ≤ 16) (hr : Ris k) (hk : ∀ x ∈ k, 0 ≤ x ∧ x < 18446744073709551616) (hm : 1 ≤ most) (hst : Stps k most (sg0 N (lays [] S) k) ms σ) (hf : Fin σ) : ∃ R, EvR k N (lays [] S) ms R := by
  have hi0 := inv0 hS.tab hr hk n1 n16
  have hLb : ∀ s ∈ lays [] S, 0 ≤ s.h ∧ s.h < (N : Int) := fun s hs => by
    obtain ⟨y, hy, e⟩ := lays_mem hs
    rw [← e]
    rw [List.nil_append] at hy
    exact hb y hy
  have hN : ∀ x, 0 ≤ x → x < 18446744073709551616 → ow (lays [] S) x < (N : Int) := fun x h0 h1 => by
    obtain ⟨s, e1, _, _, e2, _⟩ := plc_facts hS.tab.cov h0 h1
    rw [← e2]
    exact (hLb s (List.mem_of_getElem? e1)).2
  obtain ⟨R, r1, r2, r3, r4⟩ := Stps.played hr hk hm hst hi0 (off0 N (lays [] S) k) hN
  have ld : ∀ h, h < N → Pn.cnt (k.map (ow R)) h = Pn.tgt (Pn.lds N (k.map (ow (lays [] S)))) h := fun h hN => r3.fin r2 hf hN
  refine ⟨R, r1, r2.tab, fun s hs => ?_, ld, ?_⟩
  · have hm := cov_mem r2.tab.cov s hs
    have h16 := r2.tab.hs s hs
    have e := ow_mem r2.tab.cov hs (Int.le_refl _) hm.2.1
    have := r4 s.lo (by omega) (by omega)
    omega
  · have e : Pn.lds N (k.map (ow R)) = Pn.tgs (Pn.lds N (k.map (ow (lays [] S)))) N := by
      unfold Pn.lds Pn.tgs
      exact List.map_congr_left (fun h hh => ld h (List.mem_range.1 hh))
    have hl : (Pn.lds N (k.map (ow (lays [] S)))).length = N := Pn.lds_len _ _
    have ts := Pn.tgs_sum (Pn.lds N (k.map (ow (lays [] S)))) (by omega)
    rw [hl] at ts
    rw [e, ts]
    have := cnt_sum_eq N (k.map (ow (lays [] S))) (fun x hx => by
      obtain ⟨y, hy, rfl⟩ := List.mem_map.1 hx
      have h := hk y hy
      exact ⟨(hS.tab.ow16 h.1 h.2).1, hN y h.1 h.2⟩)
    rw [List.length_map] at this
    exact this
theorem tgt_near (o : List Int) (a b : Nat) : Pn.tgt o a - Pn.tgt o b ≤ 1 := by
  unfold Pn.tgt
  split <;> split <;> omega
/-- a table that may be: a layout that may be -/
theorem tab_lays {R : List Sg} (h : Tab R) : lays [] R = R := by
  have lc := lays_cov (A := []) (a := 0) (m := 0) rfl h.cov
  exact cov_unique lc.1 h.cov (lays_alt trivial) h.alt (fun k k0 k1 => by rw [lc.2 k k0 k1, if_neg (by omega)])
theorem tab_good {R : List Sg} (h : Tab R) : Good R := ⟨h.cov, fun s hs => by have := h.hs s hs; omega⟩
theorem tab_layB {R : List Sg} (h : Tab R) {N : Nat} (hs : ∀ s ∈ R, 0 ≤ s.h ∧ s.h < (N : Int)) (hl : R.length ≤ 8192) {k : List Int} (hr : Ris k) : LayB (N : Int) R k := by
  have g := tab_good h
  refine ⟨⟨lok_of g, good_lok g, ?_⟩, fun s hs' => ?_, hr⟩
  · rw [tab_lays h]; omega
  · rw [tab_lays h] at hs'; exact (hs s hs').2
end Go.Proofs.YtbifmcadllilhaaGreat.Rg
