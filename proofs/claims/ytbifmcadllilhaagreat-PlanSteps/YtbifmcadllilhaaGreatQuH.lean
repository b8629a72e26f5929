import Derived.Test.YtbifmcadllilhaaGreatQuD
import Derived.Test.YtbifmcadllilhaaGreatQuG
import Derived.Test.YtbifmcadllilhaaGreatRgL
namespace Go.Proofs.YtbifmcadllilhaaGreat.Rg
open Go.RowKit Go.Shelf Go.Sort
open Go.Proofs.YtbifmcadllilhaaGreat.It
set_option linter.unusedVariables false
set_option maxRecDepth 100000 in
set_option maxHeartbeats 400000 in
theorem segments37 (w : World) (B fb sg ns cs pb Bo g c D : Nat) (S : List Int) (o : Nat → Int) (t : List Int) (hF : Fd w B fb sg ns cs pb S) (hO : OwT w Bo pb g c D o t) (hS : Sts S) (hn : ns ≤ 2 ^ D) (hD : 2 * 2 ^ D ≤ 1000000) (hns : ns ≤ 20000) :
    Calls Tryz.prog 35 #[.pointer (some ⟨fb, 0, none⟩)] w fun e w' => ∃ u, e = .returned u ∧ w'.ownsRow w.heap.size 38 3 u (rk S o ns).length (cells (rk S o ns)) ∧ Kp (fun k => k = g) w w' := by
  have mixed : Tryz.prog.follows .mixedOrders = true := by kernel_rfl
  obtain ⟨i0, hi, hz0, hz1, hz2⟩ := info_parts info82z
  have hl := hF.row.len
  have hn0 : 0 < ns := by have := hS.ne; omega
  have c0 := hF.c0
  have c1 := hF.c1
  have LL : ∀ W, Kp Nu w W → Calls Tryz.prog 61 #[.pointer (some ⟨pb, 0, none⟩), .int .i64 (ns : Int)] W fun e w' => e = .returned (.slice (some ⟨g, 2 ^ D, none⟩) ns (c - 2 ^ D)) ∧ Hid (∃ t', Tr w' Bo pb g (2 * 2 ^ D) c (2 ^ D) t' ∧ ∀ q, q < ns → gt t' (2 ^ D + q) = o q) ∧ Kp (fun k => k = g) w w' := fun W k => (list65 W Bo pb g c D ns o t (hO.nu k) hD hn0 hn).mono (fun e w' h => by
    obtain ⟨h1, t', h2, h3, h4⟩ := h
    exact ⟨h1, hide ⟨t', h2, h3⟩, (k.mono (fun _ _ e => e.elim)).trans h4 (fun _ _ e => e)⟩)
  have HF := hide (And.intro hF hO)
  have HS : ∀ W, Kp Nu w W → W.cell? ⟨fb, 0, none⟩ = some (.slice (some ⟨sg, 0, none⟩) ns cs) ∧ W.cell? ⟨fb, 1, none⟩ = some (.pointer (some ⟨pb, 0, none⟩)) := fun W k => ⟨cell_nu c0 k, cell_nu c1 k⟩
  have hfg : fb ≠ g := fun e => by
    obtain ⟨cur, h⟩ := own_obj hO.tr.own (g := g) rfl
    have := hF.blk
    rw [e, h] at this
    cases this
  have hsgg : sg ≠ g := fun e => by
    obtain ⟨cur, h⟩ := own_obj hO.tr.own (g := g) rfl
    obtain ⟨cur2, h2⟩ := own_obj hF.row.own (g := sg) rfl
    rw [e, h] at h2
    cases h2
  have HS5 : ∀ W, Kp (fun k => k = g) w W → W.cell? ⟨fb, 0, none⟩ = some (.slice (some ⟨sg, 0, none⟩) ns cs) ∧ W.cell? ⟨fb, 1, none⟩ = some (.pointer (some ⟨pb, 0, none⟩)) := fun W k => by
    have := blk_kp hF.blk k hfg
    exact ⟨by simp [World.cell?, this], by simp [World.cell?, this]⟩
  have hgw : g < w.heap.size := hO.tr.lt
  clear hF hO
  go_enter Tryz.func35, Tryz.ntmps35
  go_wp2_with fail
  go_region_held3 (fun W => W.cell? ⟨fb, 0, none⟩ = some (.slice (some ⟨sg, 0, none⟩) ns cs) ∧ W.cell? ⟨fb, 1, none⟩ = some (.pointer (some ⟨pb, 0, none⟩))) (first | (refine HS5 _ ?_; assumption; done) | (refine HS _ ?_; repeat (first | assumption | exact Kp.refl _ _ | apply Kp.drew))) (first | (go_at_call 61; refine (LL _ ?_).mono ?_; (repeat (first | assumption | exact Kp.refl _ _ | apply Kp.drew)); rintro e w1 ⟨rfl, hT1, hk1⟩))
  have F1 : Fd w1 B fb sg ns cs pb S := ⟨blk_kp HF.out.1.blk hk1 hfg, ⟨own_keep HF.out.1.row.own (fun x e => hk1.block x (own_lt HF.out.1.row.own e) (fun e2 => by simp [Value.ownBlock] at e; omega)), hl⟩⟩
  obtain ⟨t', hT', ho'⟩ := hT1.out
  have H1 := hide (And.intro F1 (And.intro hT' (And.intro ho' hk1)))
  clear F1 hT' ho' hk1 hT1 LL HS HS5 c0 c1 HF
  go_wp2
  go_loopw [3, 18] (fun sv iv wr => ∃ (i ln : Nat) (la : Option Addr) (lc : Nat), iv = .int .i64 (i : Int) ∧ sv = .slice la ln lc ∧ i ≤ ns ∧ ln ≤ i ∧ Hid (∃ R, Rp S o i R ∧ R.length = ln ∧ wr.ownsRow w1.heap.size 38 3 (.slice la ln lc) ln (cells R) ∧ Kp Nu w1 wr)) (fun _ iv _ => ns - (intOf iv).toNat)
  case atStart => exact ⟨0, 0, none, 0, rfl, rfl, Nat.zero_le _, Nat.zero_le _, hide ⟨[], .inl ⟨rfl, rfl⟩, rfl, World.ownsRow_nil _ _ _ _, Kp.refl _ _⟩⟩
  case round =>
    obtain ⟨i, ln, la, lc, rfl, rfl, hi1, hi2, hI⟩ := hrel
    have hi0 : (0 : Int) ≤ (i : Int) := by omega
    by_cases hlt : i < ns
    · have hltI : (i : Int) < (ns : Int) := by omega
      obtain ⟨F1, hT', ho', hk1⟩ := H1.out
      obtain ⟨R, h1, h2, h3, h4⟩ := hI.out
      obtain ⟨x1, _⟩ := (hT'.nu h4).at_ (k := 2 ^ D + i) (by omega)
      rw [ho' i hlt] at x1
      have c0 := (F1.nu h4).c0
      obtain ⟨s1, _⟩ := (F1.nu h4).row.at_ (k := i) hlt
      have hfb1 : fb < w1.heap.size := blk_lt F1.blk
      have hsg1 : sg < w1.heap.size := own_lt F1.row.own rfl
      have eti : (i : Int).toNat = i := by omega
      have hw1s := h4.size
      by_cases hz : ln = 0
      · have hi00 : Hid (i = 0) := hide (by
          rcases h1 with ⟨e, _⟩ | ⟨_, A, lo, h, e, _⟩
          · exact e
          · rw [e] at h2; simp at h2; omega)
        subst hz
        have HR0 : Hid (R = []) := hide (List.eq_nil_of_length_eq_zero h2)
        have HI := hide (And.intro h3 h4)
        clear hI h1 h2 h3 h4 F1 hT' ho' hk1
        go_wp2_with (at_builtin; refine unhid ?_)
        refine wpList_append_own_at _ rfl _ _ 22 rfl w1.heap.size 38 i0 (.agg #[.int .u64 0, .int .u64 0, .int .u8 0]) 3 24 Tryz.underlying22 hi hz0 hz1 hz2 rfl (by decide) (.slice la 0 lc) 0 (cells []) rfl (by have q := HI.out.1; rw [HR0.out] at q; exact q.alloc _) ⟨wr.heap.size, 0, none⟩ 1 1 [.int .u64 (gt S i), .int .u64 18446744073709551615, .int .u8 (o i)] rfl rfl (cell_three_new wr _ _ _ _) (by simp [Value.oneCell']) (by unfold maxLen; omega) (by omega) (by rw [World.size_alloc]; exact Nat.le_trans hw1s (Nat.le_succ _)) ?_
        intro v' w4 ho hg hnil hat
        obtain ⟨ad4, cp4, ev⟩ := own_slice ho
        subst ev
        have HO := hide (And.intro ho hg)
        clear ho hg hnil hat
        go_wp2
        obtain ⟨ho, hg⟩ := HO.out
        obtain ⟨h3, h4⟩ := HI.out
        refine ⟨⟨i + 1, 1, ad4, cp4, by go_num, rfl, by omega, by omega, hide ⟨[⟨gt S i, 18446744073709551615, o i⟩], ?_, rfl, ho, (h4.andAlloc _).trans (Kp.of_grown hg) (fun j hj e => ?_)⟩⟩, by simp [intOf]; omega⟩
        · rw [hi00.out]; exact Rp.first
        · have := (h3.lt j e.symm).1
          omega
      · obtain ⟨ip, A, lo, h, eR, eK⟩ : 0 < i ∧ ∃ A lo h, R = A ++ [⟨lo, 18446744073709551615, h⟩] ∧ rk S o i = A ++ [⟨lo, nx S (i - 1) - 1, h⟩] := by
          rcases h1 with ⟨_, e⟩ | h1
          · rw [e] at h2; simp at h2; omega
          · exact h1
        subst eR
        obtain ⟨q, hq⟩ : ∃ q, A.length = q := ⟨_, rfl⟩
        obtain rfl : ln = q + 1 := by rw [← h2, ← hq]; simp
        have hlt2 : (A ++ [(⟨lo, 18446744073709551615, h⟩ : Sg)])[A.length]? = some ⟨lo, 18446744073709551615, h⟩ := by simp
        have h3' : wr.ownsRow w1.heap.size 38 3 (.slice la (q + 1) lc) (A ++ [(⟨lo, 18446744073709551615, h⟩ : Sg)]).length (cells (A ++ [⟨lo, 18446744073709551615, h⟩])) := by rw [h2]; exact h3
        obtain ⟨r3, cap3, hu3, z0, z1, z2⟩ := row_at h3' hlt2
        have h3'' : wr.ownsRow w1.heap.size 38 3 (.slice la (q + 1) lc) (A.length + 1) (cells (A ++ [⟨lo, 18446744073709551615, h⟩])) := by rw [hq]; exact h3
        obtain ⟨r4, cap4, hu4, o1, o2⟩ := own_end h3'' (gt S i - 1)
        have h34 : r4 = r3 := by
          rw [hu3] at hu4
          simp only [Value.slice.injEq, Option.some.injEq, Addr.mk.injEq, and_true] at hu4
          exact hu4.1.symm
        subst h34
        simp only [Value.slice.injEq] at hu3
        obtain ⟨rfl, hX, rfl⟩ := hu3
        clear hX
        simp only at z0 z1 z2
        rw [hq] at z1 z2 o1 o2
        have hr4 : w1.heap.size ≤ r4 := (h3.lt r4 rfl).1
        have hq0 : (0 : Int) ≤ (q : Int) := by omega
        have hq1 : (q : Int) + 1 ≤ 20000 := by omega
        have hqn : (q : Int).toNat = q := by omega
        have f1 : IntKind.i64.wrap (((q + 1 : Nat) : Int) - 1) = (q : Int) := by rw [IntKind.wrap_i64]; omega
        have f2 : (q : Int) ≥ 0 := by omega
        have f3 : (q : Int) < (q : Int) + 1 := by omega
        have s0 := hS.ge (i := i) (by omega)
        have s2 : 0 < gt S i := by have := hS.inc 0 i ip (by omega); rw [hS.zero] at this; exact this
        have s3 := hS.top i (by omega)
        have f4 : IntKind.u64.wrap (gt S i - 1) = gt S i - 1 := by rw [IntKind.wrap_u64]; omega
        have f5 : (gt S i - 1) % 18446744073709551616 = gt S i - 1 := by omega
        by_cases hh : h = o i
        · have heq : (h == o i) = true := by simpa using hh
          have HI := hide (And.intro h3 (And.intro h4 (And.intro h2 (Rp.same ip eK hh))))
          clear hI h1 h2 h3 h4 F1 hT' ho' hk1 eK h3' h3'' hu4 o1 o2 hlt2 hq s0 s2 s3 hh f4 f5 z0 z1 s1 c0 hr4
          go_wp2
          obtain ⟨h3, h4, h2, hR⟩ := HI.out
          exact ⟨⟨i + 1, q + 1, _, _, by go_num, rfl, by omega, by omega, hide ⟨_, hR, h2, h3, h4⟩⟩, by simp [intOf]; omega⟩
        · have heq : (h == o i) = false := by simpa using hh
          have HI := hide (And.intro o1 (And.intro h4 (And.intro hq (Rp.more ip (by omega) eK hh))))
          clear hI h1 h2 h3 h4 F1 hT' ho' hk1 eK h3' h3'' hu4 o1 hlt2 hq s0 s2 s3 hh
          have kS : Kp (fun k => k = r4) wr (wr.setCell ⟨r4, q * 3 + 1, none⟩ (.int .u64 (gt S i - 1))) := Kp.setCell wr ⟨r4, q * 3 + 1, none⟩ _
          have c0' : (wr.setCell ⟨r4, q * 3 + 1, none⟩ (.int .u64 (gt S i - 1))).cell? ⟨fb, 0, none⟩ = some (.slice (some ⟨sg, 0, none⟩) ns cs) := by rw [World.cell?_setCell_other _ _ _ _ (by intro e; simp at e <;> omega)]; exact c0
          have s1' : (wr.setCell ⟨r4, q * 3 + 1, none⟩ (.int .u64 (gt S i - 1))).cell? ⟨sg, i, none⟩ = some (.int .u64 (gt S i)) := by rw [World.cell?_setCell_other _ _ _ _ (by intro e; simp at e <;> omega)]; exact s1
          obtain ⟨wS, hwS⟩ : ∃ wS, wr.setCell ⟨r4, q * 3 + 1, none⟩ (.int .u64 (gt S i - 1)) = wS := ⟨_, rfl⟩
          rw [hwS] at c0' s1' kS HI
          have hsS : w1.heap.size ≤ wS.heap.size := Nat.le_trans hw1s kS.size
          have HK := hide kS
          clear kS
          go_wp2_with (at_builtin; refine unhid ?_)
          refine wpList_append_own_at _ rfl _ _ 22 rfl w1.heap.size 38 i0 (.agg #[.int .u64 0, .int .u64 0, .int .u8 0]) 3 24 Tryz.underlying22 hi hz0 hz1 hz2 rfl (by decide) (.slice (some ⟨r4, 0, none⟩) (q + 1) lc) (q + 1) (cells (A ++ [⟨lo, gt S i - 1, h⟩])) rfl (HI.out.1.alloc _) ⟨wS.heap.size, 0, none⟩ 1 1 [.int .u64 (gt S i), .int .u64 18446744073709551615, .int .u8 (o i)] rfl rfl (cell_three_new wS _ _ _ _) (by simp [Value.oneCell']) (by unfold maxLen; omega) (by omega) (by rw [World.size_alloc]; exact Nat.le_trans hsS (Nat.le_succ _)) ?_
          intro v' w4 ho hg hnil hat
          obtain ⟨ad4, cp4, ev⟩ := own_slice ho
          subst ev
          have HO := hide (And.intro ho hg)
          clear ho hg hnil hat
          go_wp2
          obtain ⟨ho, hg⟩ := HO.out
          obtain ⟨h3, h4, hq, hR⟩ := HI.out
          refine ⟨⟨i + 1, q + 1 + 1, ad4, cp4, by go_num, rfl, by omega, by omega, hide ⟨_, hR, ?_, ?_, ((h4.trans HK.out (fun j hj e => by omega)).andAlloc _).trans (Kp.of_grown hg) (fun j hj e => ?_)⟩⟩, by simp [intOf]; omega⟩
          · simp [hq]
          · rw [cells_append (A ++ [(⟨lo, gt S i - 1, h⟩ : Sg)]) [(⟨gt S i, 18446744073709551615, o i⟩ : Sg)]]; exact ho
          · have := (h3.lt j e.symm).1
            omega
    · have hltI : ¬ (i : Int) < (ns : Int) := by omega
      have HI := hI
      clear hI
      go_wp2
      go_ret
      obtain ⟨R, h1, h2, h3, h4⟩ := HI.out
      obtain ⟨_, _, _, hk1⟩ := H1.out
      obtain rfl : i = ns := by omega
      rw [← hl] at h1
      have e := h1.last hS
      rw [hl] at e
      rw [← e, h2]
      exact ⟨_, rfl, own_base h3 hk1.size, hk1.andNu h4⟩
end Go.Proofs.YtbifmcadllilhaaGreat.Rg
namespace Go.Proofs.YtbifmcadllilhaaGreat.Rg
open Go.RowKit Go.Shelf Go.Sort
open Go.Proofs.YtbifmcadllilhaaGreat.It
set_option linter.unusedVariables false
/-- a row of hosts -/
structure Dr8 (w : World) (B g n c : Nat) (l : List Int) : Prop where
  own : w.ownsRow B 36 1 (.slice (some ⟨g, 0, none⟩) n c) n (ucs8 l)
  len : l.length = n
theorem Dr8.at_ {w : World} {B g n c : Nat} {l : List Int} (h : Dr8 w B g n c l) {k : Nat} (hk : k < n) : w.cell? ⟨g, k, none⟩ = some (.int .u8 (gt l k)) ∧ w.frozen? ⟨g, k, none⟩ = false := by
  have hl := h.len
  have ho := h.own
  have e : (ucs8 l).length = n := by rw [ucs8_len]; exact hl
  rw [← e] at ho
  have hi : (ucs8 l)[k]? = some (.int .u8 (gt l k)) := by unfold ucs8; rw [List.getElem?_map, gt_get (by omega)]; rfl
  obtain ⟨r, cap, e2, _, h1, cur, h2⟩ := row1_at ho hi
  simp only [Value.slice.injEq, Option.some.injEq, Addr.mk.injEq, and_true] at e2
  obtain ⟨rfl, _⟩ := e2
  exact ⟨h1, free3 h2 k⟩
theorem Dr8.set {w : World} {B g n c : Nat} {l : List Int} (h : Dr8 w B g n c l) {k : Nat} (hk : k < n) (x : Int) : Dr8 (w.setCell ⟨g, k, none⟩ (.int .u8 x)) B g n c (l.set k x) := by
  refine ⟨?_, by rw [List.length_set]; exact h.len⟩
  have e : ucs8 (l.set k x) = (ucs8 l).set k (.int .u8 x) := by unfold ucs8; rw [List.map_set]
  rw [e]
  exact own_put h.own k _ (by rw [ucs8_len, h.len]; exact hk)
theorem Dr8.nu {w w' : World} {B g n c : Nat} {l : List Int} (h : Dr8 w B g n c l) (k : Kp Nu w w') : Dr8 w' B g n c l := ⟨own_keep h.own (fun g e => k.block g (own_lt h.own e) (fun h => h)), h.len⟩
theorem Dr.base {w : World} {B B' g n c : Nat} {l : List Int} (h : Dr w B g n c l) (hb : B' ≤ B) : Dr w B' g n c l := ⟨own_base h.own hb, h.len⟩
theorem OwT.base {w : World} {B B' pb g c D : Nat} {o : Nat → Int} {t : List Int} (h : OwT w B pb g c D o t) (hb : B' ≤ B) : OwT w B' pb g c D o t := ⟨⟨own_base h.tr.own hb, h.tr.len, h.tr.ne, h.tr.wid, h.tr.row⟩, h.mxd, h.who⟩
set_option maxRecDepth 100000 in
set_option maxHeartbeats 1000000 in
theorem field35 (w : World) (B b : Nat) (lim : Int) (v u : Value) (L : List Sg) (ms : List Mv) (hT : Tb B w b lim v L) (hu : Mvs w u ms) (hl : ms.length ≤ 4096) (hMB : ∀ m ∈ ms, MvB m) :
    Calls Tryz.prog 33 #[.pointer (some ⟨b, 0, none⟩), u] w fun e w' => ∃ fb, e = .returned (.pointer (some ⟨fb, 0, none⟩)) ∧ Kp Nu w w' ∧ ∃ sg ns cs pb g c D t S o, Fd w' w.heap.size fb sg ns cs pb S ∧ OwT w' w.heap.size pb g c D o t ∧ Sts S ∧ (∀ x, x ∈ S ↔ x ∈ L.map (·.lo) ++ ms.flatMap mst) ∧ (∀ j, j < ns → o j = ow L (gt S j)) ∧ ns ≤ 16384 ∧ ns ≤ 2 ^ D ∧ 2 ^ D ≤ 2 * ns := by
  have mixed : Tryz.prog.follows .mixedOrders = true := by kernel_rfl
  have ST := starts59 w B b lim v u L ms hT hu hl
  obtain ⟨z0, hzi, hz0, hz1, hz2⟩ := info_parts info57z
  obtain ⟨a1, c1, rfl, hdm⟩ := id hu
  clear hdm hu
  have HT := hide hT
  clear hT
  generalize ms.length = N at *
  go_enter Tryz.func33, Tryz.ntmps33
  go_wp2_with fail
  refine ST.mono ?_; rintro e w2 ⟨sg, ns, cs, rfl, hn0, hn1, S, hD, hinc, hmem, hk2⟩
  have HS := hide (And.intro hD (And.intro hinc (And.intro hmem hk2)))
  have hs2 := hk2.size
  clear ST hD hinc hmem hk2
  go_wp2_with (at_make; refine wpList_make_full _ rfl _ _ 112 rfl w2.heap.size 36 z0 _ 1 Tryz.underlying112 hzi hz0 hz1 _ _ _ _ ns rfl rfl rfl rfl (by rw [hz2]; omega) (by unfold maxLen; omega) (Nat.le_refl _) ?_; intro w4 hrow4 hgr4)
  obtain ⟨hD, hinc, hmem, hk2⟩ := HS.out
  rw [zero_row8] at hrow4
  have k4 : Kp Nu w2 w4 := (Kp.of_grown hgr4).mono (fun _ _ e => by cases e)
  have R4 : Dr8 w4 w2.heap.size w2.heap.size ns ns (List.replicate ns 0) := ⟨hrow4, by simp⟩
  have hsg2 : sg < w2.heap.size := own_lt hD.own rfl
  have tab := HT.out.tab
  have hSt : Sts S := by
    have hlS := hD.len
    have h0 : (0 : Int) ∈ S := by
      rw [hmem 0]
      obtain ⟨s, hs⟩ : ∃ s, L[0]? = some s := ⟨_, List.getElem?_eq_getElem tab.ne⟩
      have hc := tab.cov
      cases L with
      | nil => simp at hs
      | cons x r => exact List.mem_append_left _ (by simp; exact .inl hc.1.symm)
    have bnd : ∀ x ∈ S, 0 ≤ x ∧ x < 18446744073709551616 := fun x hx => by
      rcases List.mem_append.1 ((hmem x).1 hx) with h | h
      · obtain ⟨s, hs, rfl⟩ := List.mem_map.1 h
        have := cov_mem tab.cov s hs
        omega
      · obtain ⟨m, hm, hx⟩ := List.mem_flatMap.1 h
        have hb := hMB m hm
        have b1 := hb.l0
        have b2 := hb.l1
        have b3 := hb.h0
        unfold mst at hx
        split at hx
        · simp only [List.mem_cons, List.not_mem_nil, or_false] at hx
          omega
        · simp only [List.mem_cons, List.not_mem_nil, or_false] at hx
          omega
    have top : ∀ i, i < S.length → 0 ≤ gt S i ∧ gt S i < 18446744073709551616 := fun i hi => bnd _ (List.mem_of_getElem? (gt_get hi))
    refine ⟨by omega, ?_, fun i j h1 h2 => hinc i j h1 (by omega), fun i hi => (top i hi).2⟩
    obtain ⟨i, i1, i2⟩ := gt_mem.1 h0
    cases i with
    | zero => exact i2
    | succ i =>
      have a := hinc 0 (i + 1) (by omega) (by omega)
      have b := (top 0 (by omega)).1
      omega
  have H4 := hide (And.intro hD (And.intro hmem (And.intro hk2 (And.intro k4 (And.intro R4 hSt)))))
  clear hD hinc hmem hk2 k4 R4 hSt hrow4 hgr4 HS tab
  go_loopw [17] (fun iv wr => ∃ i : Nat, iv = .int .i64 (i : Int) ∧ i ≤ ns ∧ Hid (∃ l, Dr8 wr w2.heap.size w2.heap.size ns ns l ∧ (∀ j, gt l j ≠ 255) ∧ (∀ j, j < i → gt l j = ow L (gt S j)) ∧ Kp Nu w2 wr)) (fun iv _ => ns - (intOf iv).toNat)
  case atStart => exact ⟨0, rfl, Nat.zero_le _, hide ⟨_, H4.out.2.2.2.2.1, fun j => by rw [gt_replicate]; omega, fun j hj => by omega, H4.out.2.2.2.1⟩⟩
  case round =>
    obtain ⟨i, rfl, hi1, hI⟩ := hrel
    have hi0 : (0 : Int) ≤ (i : Int) := by omega
    obtain ⟨l, R, hne, heq, hk⟩ := hI.out
    obtain ⟨hD, hmem, hk2, k4, R4, hSt⟩ := H4.out
    by_cases hlt : i < ns
    · have hltI : (i : Int) < (ns : Int) := by omega
      have eti : (i : Int).toNat = i := by omega
      have hlS := hD.len
      obtain ⟨x1, _⟩ := (hD.nu hk).at_ (k := i) hlt
      have LK := lookup_any ((HT.out.nu hk2).nu hk) (gt S i) (hSt.ge (by omega)) (hSt.top i (by omega))
      have h16 := HT.out.tab.ow16 (hSt.ge (i := i) (by omega)) (hSt.top i (by omega))
      have HQ := hide (And.intro R (And.intro hne (And.intro heq (And.intro hk h16))))
      clear hI R hne heq hk hD hmem hk2 k4 R4 hSt h16
      go_wp2_with fail
      refine LK.mono ?_; rintro e w5 ⟨rfl, hk5⟩
      obtain ⟨R, hne, heq, hk, h16⟩ := HQ.out
      have R5 := R.nu hk5
      obtain ⟨y1, y2⟩ := R5.at_ (k := i) hlt
      have H5 := hide (And.intro R5 hk5)
      clear R hne heq hk h16 R5 hk5 LK
      go_wp2
      obtain ⟨R, hne, heq, hk, h16⟩ := HQ.out
      obtain ⟨R5, hk5⟩ := H5.out
      have hll := R5.len
      refine ⟨⟨i + 1, by go_num, by omega, hide ⟨_, R5.set (k := i) hlt _, fun j => ?_, fun j hj => ?_, (hk.andNu hk5).andSet _ _ (.inl (Nat.le_refl _))⟩⟩, by simp [intOf]; omega⟩
      · rw [gt_set _ _ (by omega)]
        split
        · omega
        · exact hne j
      · rw [gt_set _ _ (by omega)]
        by_cases e : j = i
        · rw [if_pos e, e]
        · rw [if_neg e]; exact heq j (by omega)
    · have hltI : ¬ (i : Int) < (ns : Int) := by omega
      have ei : i = ns := by omega
      have OW := owners61 wr w2.heap.size w2.heap.size ns ns l R.own R.len hn0 (by omega) hne
      have HQ := hide (And.intro heq (And.intro hk ei))
      clear hI R hne heq hk hD hmem hk2 k4 R4 hSt ei
      go_wp2_with fail
      refine OW.mono ?_; rintro e w5 ⟨pb, rfl, g, c, D, t, hO, hd1, hd2, hk5⟩
      have H5 := hide (And.intro hO (And.intro hd1 (And.intro hd2 hk5)))
      clear hO hd1 hd2 hk5 OW
      go_wp2
      go_ret
      obtain ⟨hD, hmem, hk2, k4, R4, hSt⟩ := H4.out
      obtain ⟨heq, hk, ei⟩ := HQ.out
      obtain ⟨hO, hd1, hd2, hk5⟩ := H5.out
      have kA := Kp.alloc w5 (.cells #[.slice (some ⟨sg, 0, none⟩) ns cs, .pointer (some ⟨pb, 0, none⟩)] 117) Nu
      have ks := (hk.andNu hk5).andNu kA
      subst ei
      exact ⟨w5.heap.size, rfl, hk2.andNu ks, sg, i, cs, pb, g, c, D, t, S, fun q => gt l q, ⟨heap_alloc_new w5 _, hD.nu ks⟩, (hO.nu kA).base (Nat.le_trans hs2 hk.size), hSt, hmem, heq, hn1, hd1, hd2⟩
end Go.Proofs.YtbifmcadllilhaaGreat.Rg
