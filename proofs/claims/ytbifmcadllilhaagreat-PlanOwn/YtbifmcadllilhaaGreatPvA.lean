import Derived.Test.YtbifmcadllilhaaGreatPmV
import Derived.Deep.RegionLaw
import Derived.Test.YtbifmcadllilhaaGreatOrdB
import Derived.Maps.AppendAt
namespace Go.Proofs.YtbifmcadllilhaaGreat.Rg
open Go.RowKit Go.Shelf Go.Sort
set_option linter.unusedVariables false
theorem hst_snoc (l : List St) (s : St) (h : Nat) : hst (l ++ [s]) h = hst l h ++ (if s.sg.h = (h : Int) ∧ 0 < s.n then [s] else []) := by
  unfold hst
  rw [List.filter_append, List.filter_cons, List.filter_nil]
  congr 1
  by_cases e1 : s.sg.h = (h : Int) <;> by_cases e2 : 0 < s.n <;> simp [e1, e2]
theorem hsts_more (l : List St) (s : St) {q n : Nat} (hq : s.sg.h = (q : Int)) (hn : 0 < s.n) : (List.range n).map (hst (l ++ [s])) = ((List.range n).map (hst l)).set q (hst l q ++ [s]) := by
  apply List.ext_getElem?
  intro k
  by_cases hk : k < n
  · rw [List.getElem?_set, List.getElem?_map, List.getElem?_map, List.getElem?_range hk, List.length_map, List.length_range]
    simp only [Option.map_some]
    rw [hst_snoc]
    by_cases e : q = k
    · subst e
      rw [if_pos rfl, if_pos hk, if_pos ⟨hq, hn⟩]
    · rw [if_neg e, if_neg (fun c => by omega), List.append_nil]
  · rw [List.getElem?_eq_none (by simp; omega), List.getElem?_eq_none (by simp; omega)]
theorem hsts_same (l : List St) (s : St) (n : Nat) (hn : s.n = 0) : (List.range n).map (hst (l ++ [s])) = (List.range n).map (hst l) := by
  apply List.map_congr_left
  intro k _
  rw [hst_snoc, if_neg (by omega), List.append_nil]
theorem Pls.nu0 {w w' : World} {B : Nat} {pv : Value} {vs : List Value} {ls : List (List St)} (h : Pls w B pv vs ls) (k : Kp Nu w w') : Pls w' B pv vs ls :=
  ⟨own_keep h.row (fun g e => k.block g (own_lt h.row e) (fun h => h)), h.len, fun i v l hv hl => own_keep (h.each i v l hv hl) (fun g e => k.block g (own_lt (h.each i v l hv hl) e) (fun h => h)), h.apart⟩
def selD (l : Bool) (v d : Value) : Value := if l then v else d
theorem selD_t (v d : Value) : selD true v d = v := rfl
theorem selD_f (v d : Value) : selD false v d = d := rfl
theorem lt_cases15 {i : Nat} (h : i < 15) : i = 0 ∨ i = 1 ∨ i = 2 ∨ i = 3 ∨ i = 4 ∨ i = 5 ∨ i = 6 ∨ i = 7 ∨ i = 8 ∨ i = 9 ∨ i = 10 ∨ i = 11 ∨ i = 12 ∨ i = 13 ∨ i = 14 := by omega
theorem cell_of_block {w : World} {b o : Nat} {c : Array Value} {t : TypeId} (h : w.heap[b]? = some (.cells c t (0, 0))) : w.cell? ⟨b, o, none⟩ = c[o]? := by simp [World.cell?, h]
set_option maxRecDepth 100000 in
set_option maxHeartbeats 2000000 in
theorem piles74 (w : World) (B n : Nat) (v : Value) (l : List St) (ho : w.ownsRow B 99 4 v l.length (cellsT l)) (h1 : n ≤ 16) (hh : ∀ s ∈ l, 0 ≤ s.sg.h ∧ s.sg.h < (n : Int)) (hl : l.length ≤ 8192) :
    Calls Tryz.prog 47 #[.int .i64 (n : Int), v] w fun e w' => ∃ pv vs, e = .returned pv ∧ Pls w' w.heap.size pv vs ((List.range n).map (hst l)) ∧ Kp Nu w w' := by
  have mixed : Tryz.prog.follows .mixedOrders = true := by kernel_rfl
  obtain ⟨vad, vcap, rfl⟩ := own_slice ho
  obtain ⟨N, eN⟩ : ∃ N, l.length = N := ⟨_, rfl⟩
  have HU := hide (And.intro ho (And.intro eN hh))
  rw [eN] at hl ⊢
  have hNI : (N : Int) ≤ 8192 := by omega
  have hnI : (n : Int) ≤ 16 := by omega
  clear ho eN hh hl
  obtain ⟨z0, hzi, hz0, hz1, hz2⟩ := info_parts info84z
  obtain ⟨i0, hi2, hy0, hy1, hy2⟩ := info_parts info129
  go_enter Tryz.func47, Tryz.ntmps47
  go_wp2_with (at_make; refine wpList_make_full _ rfl _ _ 73 rfl w.heap.size 68 z0 _ 1 Tryz.underlying73 hzi hz0 hz1 _ _ _ _ n rfl rfl rfl rfl (by rw [hz2]; omega) (by unfold maxLen; omega) (Nat.le_refl _) ?_; intro w4 hrow4 hgr4)
  have H4 := hide (And.intro (pls_zero hrow4) ((Kp.of_grown hgr4).mono (T := Nu) (fun _ _ e => by cases e)))
  clear hrow4 hgr4
  go_wp2
  go_loopw [12] (fun iv wr => ∃ i : Nat, iv = .int .i64 (i : Int) ∧ i ≤ N ∧ Hid (∃ vs, Pls wr w.heap.size (.slice (some ⟨w.heap.size, 0, none⟩) n n) vs ((List.range n).map (hst (l.take i))) ∧ vs.length = n ∧ Kp Nu w wr)) (fun iv _ => N - (intOf iv).toNat)
  case atStart => exact ⟨0, rfl, Nat.zero_le _, hide ⟨_, H4.out.1, by simp, H4.out.2⟩⟩
  case round =>
    obtain ⟨i, rfl, hi, hI⟩ := hrel
    have hi0 : (0 : Int) ≤ (i : Int) := by omega
    obtain ⟨vs, hP, hvl, hkw⟩ := hI.out
    by_cases hlt : i < N
    · have hltI : (i : Int) < (N : Int) := by omega
      obtain ⟨s, hs⟩ : ∃ s, l[i]? = some s := ⟨_, List.getElem?_eq_getElem (by rw [HU.out.2.1]; exact hlt)⟩
      obtain ⟨r, cap, e, x0, x1, x2, x3⟩ := row4_at HU.out.1 hs
      simp only [Value.slice.injEq] at e
      obtain ⟨rfl, e1, e2⟩ := e
      subst e2
      clear e1
      replace x0 := cell_nu x0 hkw
      replace x1 := cell_nu x1 hkw
      replace x2 := cell_nu x2 hkw
      replace x3 := cell_nu x3 hkw
      have eti : (i : Int).toNat = i := by omega
      have hsh := HU.out.2.2 s (List.mem_of_getElem? hs)
      have htk : l.take (i + 1) = l.take i ++ [s] := by rw [List.take_add_one, hs]; rfl
      obtain ⟨q, hq⟩ : ∃ q : Nat, s.sg.h = (q : Int) := ⟨s.sg.h.toNat, by omega⟩
      have hqn : q < n := by omega
      have hqI : (q : Int) < (n : Int) := by omega
      have hq0 : (0 : Int) ≤ (q : Int) := by omega
      have etq : (q : Int).toNat = q := by omega
      rw [hq] at x2
      obtain ⟨u, hu⟩ : ∃ u, vs[q]? = some u := ⟨_, List.getElem?_eq_getElem (by rw [hvl]; exact hqn)⟩
      have hlq : ((List.range n).map (hst (l.take i)))[q]? = some (hst (l.take i) q) := by rw [List.getElem?_map, List.getElem?_range hqn]; rfl
      obtain ⟨rr, cr, epv, hBr, o0, curr, hrr⟩ := row1_at hP.row hu
      simp only [Value.slice.injEq, Option.some.injEq, Addr.mk.injEq, and_true] at epv
      obtain ⟨rfl, env_, ecr⟩ := epv
      clear env_ ecr
      obtain ⟨oa, oc, eu⟩ := own_slice (hP.each q u _ hu hlq)
      obtain ⟨lq, elq⟩ : ∃ lq, hst (l.take i) q = lq := ⟨_, rfl⟩
      obtain ⟨LN, eLN⟩ : ∃ LN, lq.length = LN := ⟨_, rfl⟩
      have hLN : LN ≤ 8192 := by
        rw [← eLN, ← elq]
        unfold hst
        have h1 := List.length_filter_le (fun s => decide (s.sg.h = (q : Int)) && decide (0 < s.n)) (l.take i)
        have h2 := HU.out.2.1
        rw [List.length_take] at h1
        omega
      rw [elq, eLN] at eu
      subst eu
      obtain ⟨wA, hwA⟩ : ∃ wA, wr.alloc (.cells #[.int .u64 s.sg.lo, .int .u64 s.sg.hi, .int .u8 (q : Int), .slice s.a s.n s.c] 99) = wA := ⟨_, rfl⟩
      have kA : Kp Nu wr wA := by rw [← hwA]; exact Kp.alloc _ _ _
      have bA : wA.heap[wr.heap.size]? = some (.cells #[.int .u64 s.sg.lo, .int .u64 s.sg.hi, .int .u8 (q : Int), .slice s.a s.n s.c] 99 (0, 0)) := by rw [← hwA]; exact heap_alloc_new wr _
      obtain ⟨d0, d1, d2, d3⟩ := cell4 bA
      have HX := hide (And.intro hP (And.intro hvl (And.intro hkw (And.intro hs (And.intro htk (And.intro hq (And.intro hu (And.intro hlq (And.intro hrr (And.intro elq (And.intro eLN (And.intro kA bA))))))))))))
      by_cases hn0 : 0 < s.n
      · have hd : decide ((s.n : Int) > 0) = true := by simp; omega
        have hPA := hP.nu0 kA
        have hrA := box2 hrr kA
        have hrowA := hPA.each q _ _ hu hlq
        rw [elq, eLN] at hrowA
        have HR : Hid (∀ w', Kp Nu wA w' → w'.cell? ⟨wr.heap.size, 2, none⟩ = some (.int .u8 (q : Int)) ∧ w'.cell? ⟨w.heap.size, q, none⟩ = some (.slice oa LN oc) ∧ w'.cell? ⟨wr.heap.size, 0, none⟩ = some (.int .u64 s.sg.lo) ∧ w'.cell? ⟨wr.heap.size, 1, none⟩ = some (.int .u64 s.sg.hi) ∧ w'.cell? ⟨wr.heap.size, 2, none⟩ = some (.int .u8 (q : Int)) ∧ w'.cell? ⟨wr.heap.size, 3, none⟩ = some (.slice s.a s.n s.c)) := hide (fun w' k => ⟨(cell4 (box2 bA k)).2.2.1, cell_nu (cell_nu o0 kA) k, cell4 (box2 bA k)⟩)
        obtain ⟨OUA, hOUA⟩ : ∃ OUA : Option Addr → Nat → World → Prop, OUA = fun va vc w' => w'.ownsRow w.heap.size 99 4 (.slice va (LN + 1) vc) (LN + 1) (cellsT lq ++ [.int .u64 s.sg.lo, .int .u64 s.sg.hi, .int .u8 (q : Int), .slice s.a s.n s.c]) ∧ Kp (fun g => some g = (Value.slice oa LN oc).ownBlock) wA w' ∧ ((Value.slice va (LN + 1) vc).ownBlock = (Value.slice oa LN oc).ownBlock ∨ ∃ g, wA.heap.size ≤ g ∧ (Value.slice va (LN + 1) vc).ownBlock = some g) := ⟨_, rfl⟩
        obtain ⟨OUT, hOUT⟩ : ∃ OUT : World → Prop, OUT = fun w' => ∃ va vc w7, OUA va vc w7 ∧ w' = w7.setCell ⟨w.heap.size, q, none⟩ (.slice va (LN + 1) vc) := ⟨_, rfl⟩
        have hwA : w.heap.size ≤ wA.heap.size := Nat.le_trans hkw.size kA.size
        have HV : Hid (∀ w' Bs, Kp Nu wA w' → Hid (w'.heap[Bs]? = some (.cells #[.int .u64 s.sg.lo, .int .u64 s.sg.hi, .int .u8 (q : Int), .slice s.a s.n s.c] 99 (0, 0))) → ∃ va vc W2, (Builtin.append_ #[68, 68] 68 #[.slice oa LN oc, .slice (some ⟨Bs, 0, none⟩) 1 1]).run Tryz.prog w' = .ok (.slice va (LN + 1) vc) W2 ∧ Hid (OUA va vc W2)) := fun w' Bs k hB => by
          have hown := own_keep hrowA (fun g e => k.block g (own_lt hrowA e) (fun h => h))
          obtain ⟨v', W2, hrun, h1, h2, _, h5⟩ := run_append_own_at (P := Tryz.prog) w' w.heap.size 68 68 99 i0 _ 4 48 Tryz.underlying68 hi2 hy0 hy1 hy2 rfl (by decide) _ LN _ hown ⟨Bs, 0, none⟩ 1 1 [.int .u64 s.sg.lo, .int .u64 s.sg.hi, .int .u8 (q : Int), .slice s.a s.n s.c] rfl (cell_four_at hB) (by simp [Value.oneCell']) (by unfold maxLen; omega) (by omega) (Nat.le_trans hwA k.size)
          obtain ⟨va, vc, rfl⟩ := own_slice h1
          refine ⟨va, vc, W2, hrun, ?_⟩
          show OUA va vc W2
          rw [hOUA]
          refine ⟨h1, (k.mono (fun _ _ h => h.elim)).trans (Kp.of_grown h2) (fun i _ e => e), ?_⟩
          rcases h5 with h5 | h5
          · exact .inl h5
          · exact .inr ⟨_, k.size, h5⟩
        have hnr : ∀ g, (Value.slice oa LN oc).ownBlock = some g → g ≠ w.heap.size := fun g e e2 => by
          obtain ⟨cc, e3⟩ := own_obj hrowA e
          rw [e2, hrA] at e3; cases e3
        have HW : Hid (∀ va vc w', Hid (OUA va vc w') → w'.cell? ⟨w.heap.size, q, none⟩ = some (.slice oa LN oc) ∧ w'.frozen? ⟨w.heap.size, q, none⟩ = false ∧ Hid (OUT (w'.setCell ⟨w.heap.size, q, none⟩ (.slice va (LN + 1) vc)))) := fun va vc w' hO => by
          have hO2 : OUA va vc w' := hO
          rw [hOUA] at hO2
          have hb := (hO2.2.1.block w.heap.size (blk_lt hrA) (fun e => hnr _ e.symm rfl)).trans hrA
          refine ⟨(cell_of_block hb).trans ((cell_of_block hrA).symm.trans (cell_nu o0 kA)), free3 hb q, ?_⟩
          show OUT _
          rw [hOUT]
          exact ⟨va, vc, w', hO, rfl⟩
        have hnA : ∀ g, (Value.slice oa LN oc).ownBlock = some g → g ≠ wr.heap.size := fun g e e2 => by
          have h := hP.each q _ _ hu hlq
          rw [elq, eLN] at h
          have := own_lt h e
          omega
        have HQ : Hid (∀ va vc w', Hid (OUA va vc w') → w'.cell? ⟨wr.heap.size, 2, none⟩ = some (.int .u8 (q : Int))) := fun va vc w' hO => by
          have hO2 : OUA va vc w' := hO
          rw [hOUA] at hO2
          exact (cell4 ((hO2.2.1.block wr.heap.size (blk_lt bA) (fun e => hnA _ e.symm rfl)).trans bA)).2.2.1
        have HZ := hide (And.intro hOUA (And.intro hOUT (And.intro hPA (And.intro hrA hrowA))))
        clear hP hvl hkw hs htk hq hu hlq hrr elq eLN kA bA hOUA hOUT hPA hrA hrowA hnr hnA hwA
        go_wp2_with fail
        refine (wpIn_wide (n := 0)).1 ?_
        refine wpIn_region_any (by assumption) ?_
        change wpAnyIn _ _ _ _ _ _ _ _ _ (World.drew _)
        refine Ord.wpAnyIn_inv (Inv := fun listed a w' => ∃ (l0 l1 l2 l3 l4 l5 l6 l7 l8 l9 l10 l11 l12 l13 l14 : Bool) (Bs : Nat) (va : Option Addr) (vc : Nat), listed = #[l0, l1, l2, l3, l4, l5, l6, l7, l8, l9, l10, l11, l12, l13, l14] ∧ a = { tmps := #[.int .i64 (n : Int), .slice (some ⟨r, 0, none⟩) N vcap, undef, undef, .slice none 0 0, .slice (some ⟨w.heap.size, 0, none⟩) n n, undef, .pointer (some ⟨wr.heap.size, 0, none⟩), .int .i64 (n : Int), .slice (some ⟨w.heap.size, 0, none⟩) n n, .slice (some ⟨r, 0, none⟩) N vcap, .int .i64 (N : Int), .int .i64 (i : Int), .bool true, .pointer (some ⟨r, i * 4, none⟩), .agg #[.int .u64 s.sg.lo, .int .u64 s.sg.hi, .int .u8 (q : Int), .slice s.a s.n s.c], .pointer (some ⟨wr.heap.size, 3, none⟩), .slice s.a s.n s.c, .int .i64 (s.n : Int), .bool true, Rg.selD l0 (.slice (some ⟨w.heap.size, 0, none⟩) n n) u20, Rg.selD l1 (.pointer (some ⟨wr.heap.size, 0, none⟩)) u21, Rg.selD l2 (.pointer (some ⟨wr.heap.size, 2, none⟩)) u22, Rg.selD l3 (.int .u8 (q : Int)) u23, Rg.selD l4 (.slice (some ⟨w.heap.size, 0, none⟩) n n) u24, Rg.selD l5 (.pointer (some ⟨wr.heap.size, 0, none⟩)) u25, Rg.selD l6 (.pointer (some ⟨wr.heap.size, 2, none⟩)) u26, Rg.selD l7 (.int .u8 (q : Int)) u27, Rg.selD l8 (.pointer (some ⟨w.heap.size, q, none⟩)) u28, Rg.selD l9 (.slice oa LN oc) u29, Rg.selD l10 (.agg #[.int .u64 s.sg.lo, .int .u64 s.sg.hi, .int .u8 (q : Int), .slice s.a s.n s.c]) u30, Rg.selD l11 (.slice (some ⟨Bs, 0, none⟩) 1 1) u31, Rg.selD l12 (.slice va (LN + 1) vc) u32, Rg.selD l13 (.pointer (some ⟨w.heap.size, q, none⟩)) u33, u34, undef], defers := [] } ∧ (l2 = true → l1 = true) ∧ (l3 = true → l2 = true) ∧ (l6 = true → l5 = true) ∧ (l7 = true → l6 = true) ∧ (l8 = true → l4 = true ∧ l7 = true) ∧ (l9 = true → l8 = true) ∧ (l11 = true → l10 = true) ∧ (l12 = true → l9 = true ∧ l11 = true) ∧ (l13 = true → l0 = true ∧ l3 = true ∧ l1 = true ∧ l2 = true ∧ l4 = true ∧ l5 = true ∧ l6 = true ∧ l7 = true ∧ l8 = true ∧ l9 = true ∧ l10 = true ∧ l11 = true ∧ l12 = true) ∧ (l14 = true → l13 = true ∧ l12 = true ∧ l0 = true ∧ l1 = true ∧ l2 = true ∧ l3 = true ∧ l4 = true ∧ l5 = true ∧ l6 = true ∧ l7 = true ∧ l8 = true ∧ l9 = true ∧ l10 = true ∧ l11 = true) ∧ (l12 = false → Kp Nu wA w') ∧ (l11 = true → l12 = false → Hid (w'.heap[Bs]? = some (.cells #[.int .u64 s.sg.lo, .int .u64 s.sg.hi, .int .u8 (q : Int), .slice s.a s.n s.c] 99 (0, 0)))) ∧ (l12 = true → l14 = false → Hid (OUA va vc w')) ∧ (l14 = true → Hid (OUT w'))) ?step ?fin _ _ _ _ ?start ?count
        case start => exact ⟨false, false, false, false, false, false, false, false, false, false, false, false, false, false, false, 0, none, 0, rfl, rfl, (fun h => by cases h), (fun h => by cases h), (fun h => by cases h), (fun h => by cases h), (fun h => by cases h), (fun h => by cases h), (fun h => by cases h), (fun h => by cases h), (fun h => by cases h), (fun h => by cases h), fun _ => (Kp.refl Nu wA).drew, (fun h => by cases h), (fun h => by cases h), (fun h => by cases h)⟩
        case count => decide
        case step =>
          rintro listed a w' i ⟨l0, l1, l2, l3, l4, l5, l6, l7, l8, l9, l10, l11, l12, l13, l14, Bs, va, vc, rfl, rfl, c2, c3, c6, c7, c8, c9, c11, c12, c13, c14, hw0, hw1, hw2, hw3⟩ hi'
          obtain ⟨hlt', hb⟩ := Ord.mem_ready hi'
          rcases lt_cases15 hlt' with rfl | rfl | rfl | rfl | rfl | rfl | rfl | rfl | rfl | rfl | rfl | rfl | rfl | rfl | rfl
          all_goals simp [Region.binds] at hb
          · have q0 := hb
            have f13 : l13 = false := by cases hh : l13 with | false => rfl | true => exact absurd ((c13 hh).1) (by rw [q0]; simp)
            have f14 : l14 = false := by cases hh : l14 with | false => rfl | true => exact absurd ((c14 hh).1) (by rw [f13]; simp)
            have H0 := hide hw0; have H1 := hide hw1; have H2 := hide hw2
            clear hw0 hw1 hw2 hw3
            clear hi' hlt'
            subst q0 f13 f14
            have H2c := hide c2; clear c2
            have H3c := hide c3; clear c3
            have H6c := hide c6; clear c6
            have H7c := hide c7; clear c7
            have H8c := hide c8; clear c8
            have H9c := hide c9; clear c9
            have H11c := hide c11; clear c11
            have H12c := hide c12; clear c12
            clear c13
            clear c14
            refine wpOpIn_step rfl (fun K hK => ?_)
            simp only [Rg.selD_f]
            go_simp
            refine hK _ _ ?_
            exact ⟨true, _, _, _, _, _, _, _, _, _, _, _, _, false, false, Bs, va, vc, rfl, rfl, H2c.out, H3c.out, H6c.out, H7c.out, H8c.out, H9c.out, H11c.out, H12c.out, (fun h => by cases h), (fun h => by cases h), H0.out, H1.out, H2.out, (fun h => by cases h)⟩
          · have q1 := hb
            have f2 : l2 = false := by cases hh : l2 with | false => rfl | true => exact absurd ((c2 hh)) (by rw [q1]; simp)
            have f3 : l3 = false := by cases hh : l3 with | false => rfl | true => exact absurd ((c3 hh)) (by rw [f2]; simp)
            have f13 : l13 = false := by cases hh : l13 with | false => rfl | true => exact absurd ((c13 hh).2.1) (by rw [f3]; simp)
            have f14 : l14 = false := by cases hh : l14 with | false => rfl | true => exact absurd ((c14 hh).1) (by rw [f13]; simp)
            have H0 := hide hw0; have H1 := hide hw1; have H2 := hide hw2
            clear hw0 hw1 hw2 hw3
            clear hi' hlt'
            subst q1 f2 f3 f13 f14
            clear c2
            clear c3
            have H6c := hide c6; clear c6
            have H7c := hide c7; clear c7
            have H8c := hide c8; clear c8
            have H9c := hide c9; clear c9
            have H11c := hide c11; clear c11
            have H12c := hide c12; clear c12
            clear c13
            clear c14
            refine wpOpIn_step rfl (fun K hK => ?_)
            simp only [Rg.selD_f]
            go_simp
            refine hK _ _ ?_
            exact ⟨_, true, false, false, _, _, _, _, _, _, _, _, _, false, false, Bs, va, vc, rfl, rfl, (fun h => by cases h), (fun h => by cases h), H6c.out, H7c.out, H8c.out, H9c.out, H11c.out, H12c.out, (fun h => by cases h), (fun h => by cases h), H0.out, H1.out, H2.out, (fun h => by cases h)⟩
          · obtain ⟨q2, e1⟩ := hb
            have f3 : l3 = false := by cases hh : l3 with | false => rfl | true => exact absurd ((c3 hh)) (by rw [q2]; simp)
            have f13 : l13 = false := by cases hh : l13 with | false => rfl | true => exact absurd ((c13 hh).2.1) (by rw [f3]; simp)
            have f14 : l14 = false := by cases hh : l14 with | false => rfl | true => exact absurd ((c14 hh).1) (by rw [f13]; simp)
            have H0 := hide hw0; have H1 := hide hw1; have H2 := hide hw2
            clear hw0 hw1 hw2 hw3
            clear hi' hlt'
            subst q2 e1 f3 f13 f14
            clear c2
            clear c3
            have H6c := hide c6; clear c6
            have H7c := hide c7; clear c7
            have H8c := hide c8; clear c8
            have H9c := hide c9; clear c9
            have H11c := hide c11; clear c11
            have H12c := hide c12; clear c12
            clear c13
            clear c14
            refine wpOpIn_step rfl (fun K hK => ?_)
            simp only [Rg.selD_t, Rg.selD_f]
            go_simp
            refine hK _ _ ?_
            exact ⟨_, true, true, false, _, _, _, _, _, _, _, _, _, false, false, Bs, va, vc, rfl, rfl, fun _ => rfl, (fun h => by cases h), H6c.out, H7c.out, H8c.out, H9c.out, H11c.out, H12c.out, (fun h => by cases h), (fun h => by cases h), H0.out, H1.out, H2.out, (fun h => by cases h)⟩
          · obtain ⟨q3, e2⟩ := hb
            obtain e1 := c2 e2
            have f13 : l13 = false := by cases hh : l13 with | false => rfl | true => exact absurd ((c13 hh).2.1) (by rw [q3]; simp)
            have f14 : l14 = false := by cases hh : l14 with | false => rfl | true => exact absurd ((c14 hh).1) (by rw [f13]; simp)
            have z4 : w'.cell? ⟨wr.heap.size, 2, none⟩ = some (.int .u8 (q : Int)) := by cases h12 : l12 with | false => exact (HR.out _ (hw0 h12)).1 | true => exact HQ.out _ _ _ (hw2 h12 f14)
            have H0 := hide hw0; have H1 := hide hw1; have H2 := hide hw2
            clear hw0 hw1 hw2 hw3
            clear hi' hlt'
            subst q3 e1 e2 f13 f14
            clear c2
            clear c3
            have H6c := hide c6; clear c6
            have H7c := hide c7; clear c7
            have H8c := hide c8; clear c8
            have H9c := hide c9; clear c9
            have H11c := hide c11; clear c11
            have H12c := hide c12; clear c12
            clear c13
            clear c14
            refine wpOpIn_step rfl (fun K hK => ?_)
            simp only [Rg.selD_t, Rg.selD_f]
            go_simp
            refine hK _ _ ?_
            exact ⟨_, true, true, true, _, _, _, _, _, _, _, _, _, false, false, Bs, va, vc, rfl, rfl, fun _ => rfl, fun _ => rfl, H6c.out, H7c.out, H8c.out, H9c.out, H11c.out, H12c.out, (fun h => by cases h), (fun h => by cases h), H0.out, H1.out, H2.out, (fun h => by cases h)⟩
          · have q4 := hb
            have f8 : l8 = false := by cases hh : l8 with | false => rfl | true => exact absurd ((c8 hh).1) (by rw [q4]; simp)
            have f9 : l9 = false := by cases hh : l9 with | false => rfl | true => exact absurd ((c9 hh)) (by rw [f8]; simp)
            have f12 : l12 = false := by cases hh : l12 with | false => rfl | true => exact absurd ((c12 hh).1) (by rw [f9]; simp)
            have f13 : l13 = false := by cases hh : l13 with | false => rfl | true => exact absurd ((c13 hh).2.2.2.2.1) (by rw [q4]; simp)
            have f14 : l14 = false := by cases hh : l14 with | false => rfl | true => exact absurd ((c14 hh).1) (by rw [f13]; simp)
            have hk := hw0 f12
            have H1 := hide hw1
            clear hw0 hw1 hw2 hw3
            clear hi' hlt'
            subst q4 f8 f9 f12 f13 f14
            have H2c := hide c2; clear c2
            have H3c := hide c3; clear c3
            have H6c := hide c6; clear c6
            have H7c := hide c7; clear c7
            clear c8
            clear c9
            have H11c := hide c11; clear c11
            clear c12
            clear c13
            clear c14
            refine wpOpIn_step rfl (fun K hK => ?_)
            simp only [Rg.selD_f]
            go_simp
            refine hK _ _ ?_
            exact ⟨_, _, _, _, true, _, _, _, false, false, _, _, false, false, false, Bs, va, vc, rfl, rfl, H2c.out, H3c.out, H6c.out, H7c.out, (fun h => by cases h), (fun h => by cases h), H11c.out, (fun h => by cases h), (fun h => by cases h), (fun h => by cases h), fun _ => hk, H1.out, (fun h => by cases h), (fun h => by cases h)⟩
          · have q5 := hb
            have f6 : l6 = false := by cases hh : l6 with | false => rfl | true => exact absurd ((c6 hh)) (by rw [q5]; simp)
            have f7 : l7 = false := by cases hh : l7 with | false => rfl | true => exact absurd ((c7 hh)) (by rw [f6]; simp)
            have f8 : l8 = false := by cases hh : l8 with | false => rfl | true => exact absurd ((c8 hh).2) (by rw [f7]; simp)
            have f9 : l9 = false := by cases hh : l9 with | false => rfl | true => exact absurd ((c9 hh)) (by rw [f8]; simp)
            have f12 : l12 = false := by cases hh : l12 with | false => rfl | true => exact absurd ((c12 hh).1) (by rw [f9]; simp)
            have f13 : l13 = false := by cases hh : l13 with | false => rfl | true => exact absurd ((c13 hh).2.2.2.2.2.1) (by rw [q5]; simp)
            have f14 : l14 = false := by cases hh : l14 with | false => rfl | true => exact absurd ((c14 hh).1) (by rw [f13]; simp)
            have hk := hw0 f12
            have H1 := hide hw1
            clear hw0 hw1 hw2 hw3
            clear hi' hlt'
            subst q5 f6 f7 f8 f9 f12 f13 f14
            have H2c := hide c2; clear c2
            have H3c := hide c3; clear c3
            clear c6
            clear c7
            clear c8
            clear c9
            have H11c := hide c11; clear c11
            clear c12
            clear c13
            clear c14
            refine wpOpIn_step rfl (fun K hK => ?_)
            simp only [Rg.selD_f]
            go_simp
            refine hK _ _ ?_
            exact ⟨_, _, _, _, _, true, false, false, false, false, _, _, false, false, false, Bs, va, vc, rfl, rfl, H2c.out, H3c.out, (fun h => by cases h), (fun h => by cases h), (fun h => by cases h), (fun h => by cases h), H11c.out, (fun h => by cases h), (fun h => by cases h), (fun h => by cases h), fun _ => hk, H1.out, (fun h => by cases h), (fun h => by cases h)⟩
          · obtain ⟨q6, e5⟩ := hb
            have f7 : l7 = false := by cases hh : l7 with | false => rfl | true => exact absurd ((c7 hh)) (by rw [q6]; simp)
            have f8 : l8 = false := by cases hh : l8 with | false => rfl | true => exact absurd ((c8 hh).2) (by rw [f7]; simp)
            have f9 : l9 = false := by cases hh : l9 with | false => rfl | true => exact absurd ((c9 hh)) (by rw [f8]; simp)
            have f12 : l12 = false := by cases hh : l12 with | false => rfl | true => exact absurd ((c12 hh).1) (by rw [f9]; simp)
            have f13 : l13 = false := by cases hh : l13 with | false => rfl | true => exact absurd ((c13 hh).2.2.2.2.2.2.1) (by rw [q6]; simp)
            have f14 : l14 = false := by cases hh : l14 with | false => rfl | true => exact absurd ((c14 hh).1) (by rw [f13]; simp)
            have hk := hw0 f12
            have H1 := hide hw1
            clear hw0 hw1 hw2 hw3
            clear hi' hlt'
            subst q6 e5 f7 f8 f9 f12 f13 f14
            have H2c := hide c2; clear c2
            have H3c := hide c3; clear c3
            clear c6
            clear c7
            clear c8
            clear c9
            have H11c := hide c11; clear c11
            clear c12
            clear c13
            clear c14
            refine wpOpIn_step rfl (fun K hK => ?_)
            simp only [Rg.selD_t, Rg.selD_f]
            go_simp
            refine hK _ _ ?_
            exact ⟨_, _, _, _, _, true, true, false, false, false, _, _, false, false, false, Bs, va, vc, rfl, rfl, H2c.out, H3c.out, fun _ => rfl, (fun h => by cases h), (fun h => by cases h), (fun h => by cases h), H11c.out, (fun h => by cases h), (fun h => by cases h), (fun h => by cases h), fun _ => hk, H1.out, (fun h => by cases h), (fun h => by cases h)⟩
          · obtain ⟨q7, e6⟩ := hb
            obtain e5 := c6 e6
            have f8 : l8 = false := by cases hh : l8 with | false => rfl | true => exact absurd ((c8 hh).2) (by rw [q7]; simp)
            have f9 : l9 = false := by cases hh : l9 with | false => rfl | true => exact absurd ((c9 hh)) (by rw [f8]; simp)
            have f12 : l12 = false := by cases hh : l12 with | false => rfl | true => exact absurd ((c12 hh).1) (by rw [f9]; simp)
            have f13 : l13 = false := by cases hh : l13 with | false => rfl | true => exact absurd ((c13 hh).2.2.2.2.2.2.2.1) (by rw [q7]; simp)
            have f14 : l14 = false := by cases hh : l14 with | false => rfl | true => exact absurd ((c14 hh).1) (by rw [f13]; simp)
            have hk := hw0 f12
            have H1 := hide hw1
            clear hw0 hw1 hw2 hw3
            have z4 := (HR.out _ hk).1
            clear hi' hlt'
            subst q7 e5 e6 f8 f9 f12 f13 f14
            have H2c := hide c2; clear c2
            have H3c := hide c3; clear c3
            clear c6
            clear c7
            clear c8
            clear c9
            have H11c := hide c11; clear c11
            clear c12
            clear c13
            clear c14
            refine wpOpIn_step rfl (fun K hK => ?_)
            simp only [Rg.selD_t, Rg.selD_f]
            go_simp
            refine hK _ _ ?_
            exact ⟨_, _, _, _, _, true, true, true, false, false, _, _, false, false, false, Bs, va, vc, rfl, rfl, H2c.out, H3c.out, fun _ => rfl, fun _ => rfl, (fun h => by cases h), (fun h => by cases h), H11c.out, (fun h => by cases h), (fun h => by cases h), (fun h => by cases h), fun _ => hk, H1.out, (fun h => by cases h), (fun h => by cases h)⟩
          · obtain ⟨q8, e4, e7⟩ := hb
            obtain e6 := c7 e7
            obtain e5 := c6 e6
            have f9 : l9 = false := by cases hh : l9 with | false => rfl | true => exact absurd ((c9 hh)) (by rw [q8]; simp)
            have f12 : l12 = false := by cases hh : l12 with | false => rfl | true => exact absurd ((c12 hh).1) (by rw [f9]; simp)
            have f13 : l13 = false := by cases hh : l13 with | false => rfl | true => exact absurd ((c13 hh).2.2.2.2.2.2.2.2.1) (by rw [q8]; simp)
            have f14 : l14 = false := by cases hh : l14 with | false => rfl | true => exact absurd ((c14 hh).1) (by rw [f13]; simp)
            have hk := hw0 f12
            have H1 := hide hw1
            clear hw0 hw1 hw2 hw3
            clear hi' hlt'
            subst q8 e4 e5 e6 e7 f9 f12 f13 f14
            have H2c := hide c2; clear c2
            have H3c := hide c3; clear c3
            clear c6
            clear c7
            clear c8
            clear c9
            have H11c := hide c11; clear c11
            clear c12
            clear c13
            clear c14
            refine wpOpIn_step rfl (fun K hK => ?_)
            simp only [Rg.selD_t, Rg.selD_f]
            go_simp
            refine hK _ _ ?_
            exact ⟨_, _, _, _, true, true, true, true, true, false, _, _, false, false, false, Bs, va, vc, rfl, rfl, H2c.out, H3c.out, fun _ => rfl, fun _ => rfl, fun _ => ⟨rfl, rfl⟩, (fun h => by cases h), H11c.out, (fun h => by cases h), (fun h => by cases h), (fun h => by cases h), fun _ => hk, H1.out, (fun h => by cases h), (fun h => by cases h)⟩
          · obtain ⟨q9, e8⟩ := hb
            obtain ⟨e4, e7⟩ := c8 e8
            obtain e6 := c7 e7
            obtain e5 := c6 e6
            have f12 : l12 = false := by cases hh : l12 with | false => rfl | true => exact absurd ((c12 hh).1) (by rw [q9]; simp)
            have f13 : l13 = false := by cases hh : l13 with | false => rfl | true => exact absurd ((c13 hh).2.2.2.2.2.2.2.2.2.1) (by rw [q9]; simp)
            have f14 : l14 = false := by cases hh : l14 with | false => rfl | true => exact absurd ((c14 hh).1) (by rw [f13]; simp)
            have hk := hw0 f12
            have H1 := hide hw1
            clear hw0 hw1 hw2 hw3
            have z4 := (HR.out _ hk).2.1
            clear hi' hlt'
            subst q9 e4 e5 e6 e7 e8 f12 f13 f14
            have H2c := hide c2; clear c2
            have H3c := hide c3; clear c3
            clear c6
            clear c7
            clear c8
            clear c9
            have H11c := hide c11; clear c11
            clear c12
            clear c13
            clear c14
            refine wpOpIn_step rfl (fun K hK => ?_)
            simp only [Rg.selD_t, Rg.selD_f]
            go_simp
            refine hK _ _ ?_
            exact ⟨_, _, _, _, true, true, true, true, true, true, _, _, false, false, false, Bs, va, vc, rfl, rfl, H2c.out, H3c.out, fun _ => rfl, fun _ => rfl, fun _ => ⟨rfl, rfl⟩, fun _ => rfl, H11c.out, (fun h => by cases h), (fun h => by cases h), (fun h => by cases h), fun _ => hk, H1.out, (fun h => by cases h), (fun h => by cases h)⟩
          · have q10 := hb
            have f11 : l11 = false := by cases hh : l11 with | false => rfl | true => exact absurd ((c11 hh)) (by rw [q10]; simp)
            have f12 : l12 = false := by cases hh : l12 with | false => rfl | true => exact absurd ((c12 hh).2) (by rw [f11]; simp)
            have f13 : l13 = false := by cases hh : l13 with | false => rfl | true => exact absurd ((c13 hh).2.2.2.2.2.2.2.2.2.2.1) (by rw [q10]; simp)
            have f14 : l14 = false := by cases hh : l14 with | false => rfl | true => exact absurd ((c14 hh).1) (by rw [f13]; simp)
            have hk := hw0 f12
            clear hw0 hw1 hw2 hw3
            obtain ⟨z0, z1, z2, z3⟩ := (HR.out _ hk).2.2
            clear hi' hlt'
            subst q10 f11 f12 f13 f14
            have H2c := hide c2; clear c2
            have H3c := hide c3; clear c3
            have H6c := hide c6; clear c6
            have H7c := hide c7; clear c7
            have H8c := hide c8; clear c8
            have H9c := hide c9; clear c9
            clear c11
            clear c12
            clear c13
            clear c14
            refine wpOpIn_step rfl (fun K hK => ?_)
            simp only [Rg.selD_f]
            go_simp
            refine hK _ _ ?_
            exact ⟨_, _, _, _, _, _, _, _, _, _, true, false, false, false, false, Bs, va, vc, rfl, rfl, H2c.out, H3c.out, H6c.out, H7c.out, H8c.out, H9c.out, (fun h => by cases h), (fun h => by cases h), (fun h => by cases h), (fun h => by cases h), fun _ => hk, (fun h => by cases h), (fun h => by cases h), (fun h => by cases h)⟩
          · obtain ⟨q11, e10⟩ := hb
            have f12 : l12 = false := by cases hh : l12 with | false => rfl | true => exact absurd ((c12 hh).2) (by rw [q11]; simp)
            have f13 : l13 = false := by cases hh : l13 with | false => rfl | true => exact absurd ((c13 hh).2.2.2.2.2.2.2.2.2.2.2.1) (by rw [q11]; simp)
            have f14 : l14 = false := by cases hh : l14 with | false => rfl | true => exact absurd ((c14 hh).1) (by rw [f13]; simp)
            have hk := hw0 f12
            clear hw0 hw1 hw2 hw3
            clear hi' hlt'
            subst q11 e10 f12 f13 f14
            have H2c := hide c2; clear c2
            have H3c := hide c3; clear c3
            have H6c := hide c6; clear c6
            have H7c := hide c7; clear c7
            have H8c := hide c8; clear c8
            have H9c := hide c9; clear c9
            clear c11
            clear c12
            clear c13
            clear c14
            refine wpOpIn_step rfl (fun K hK => ?_)
            simp only [Rg.selD_t, Rg.selD_f]
            go_simp
            refine hK _ _ ?_
            exact ⟨_, _, _, _, _, _, _, _, _, _, true, true, false, false, false, _, va, vc, rfl, rfl, H2c.out, H3c.out, H6c.out, H7c.out, H8c.out, H9c.out, fun _ => rfl, (fun h => by cases h), (fun h => by cases h), (fun h => by cases h), fun _ => hk.andAlloc _, (fun _ _ => hide (heap_alloc_new _ _)), (fun h => by cases h), (fun h => by cases h)⟩
          · obtain ⟨q12, e9, e11⟩ := hb
            obtain e10 := c11 e11
            obtain e8 := c9 e9
            obtain ⟨e4, e7⟩ := c8 e8
            obtain e6 := c7 e7
            obtain e5 := c6 e6
            have f13 : l13 = false := by cases hh : l13 with | false => rfl | true => exact absurd ((c13 hh).2.2.2.2.2.2.2.2.2.2.2.2) (by rw [q12]; simp)
            have f14 : l14 = false := by cases hh : l14 with | false => rfl | true => exact absurd ((c14 hh).1) (by rw [f13]; simp)
            have hk := hw0 q12
            have hB := hw1 e11 q12
            clear hw0 hw1 hw2 hw3
            obtain ⟨va7, vc7, W2, hrun, hA⟩ := HV.out _ _ hk hB
            clear hi' hlt'
            subst q12 e4 e5 e6 e7 e8 e9 e10 e11 f13 f14
            have H2c := hide c2; clear c2
            have H3c := hide c3; clear c3
            clear c6
            clear c7
            clear c8
            clear c9
            clear c11
            clear c12
            clear c13
            clear c14
            simp only [Rg.selD_t, Rg.selD_f]
            refine Ord.wpOpIn_append rfl rfl (.tmp 29) (.tmp 31) 68 rfl _ _ _ rfl rfl hrun ?_
            exact ⟨_, _, _, _, true, true, true, true, true, true, true, true, true, false, false, Bs, _, _, rfl, rfl, H2c.out, H3c.out, fun _ => rfl, fun _ => rfl, fun _ => ⟨rfl, rfl⟩, fun _ => rfl, fun _ => rfl, fun _ => ⟨rfl, rfl⟩, (fun h => by cases h), (fun h => by cases h), (fun h => by cases h), (fun _ h => by cases h), (fun _ _ => hA), (fun h => by cases h)⟩
          · have q13 : l13 = false := by clear hw0 hw1 hw2 hw3; first | exact hb.1 | (cases l13 <;> simp_all)
            have e0 : l0 = true := by clear hw0 hw1 hw2 hw3; (cases l0 <;> simp_all)
            have e3 : l3 = true := by clear hw0 hw1 hw2 hw3; (cases l3 <;> simp_all)
            have e1 : l1 = true := by clear hw0 hw1 hw2 hw3; (cases l1 <;> simp_all)
            have e2 : l2 = true := by clear hw0 hw1 hw2 hw3; (cases l2 <;> simp_all)
            have e4 : l4 = true := by clear hw0 hw1 hw2 hw3; (cases l4 <;> simp_all)
            have e5 : l5 = true := by clear hw0 hw1 hw2 hw3; (cases l5 <;> simp_all)
            have e6 : l6 = true := by clear hw0 hw1 hw2 hw3; (cases l6 <;> simp_all)
            have e7 : l7 = true := by clear hw0 hw1 hw2 hw3; (cases l7 <;> simp_all)
            have e8 : l8 = true := by clear hw0 hw1 hw2 hw3; (cases l8 <;> simp_all)
            have e9 : l9 = true := by clear hw0 hw1 hw2 hw3; (cases l9 <;> simp_all)
            have e10 : l10 = true := by clear hw0 hw1 hw2 hw3; (cases l10 <;> simp_all)
            have e11 : l11 = true := by clear hw0 hw1 hw2 hw3; (cases l11 <;> simp_all)
            have e12 : l12 = true := by clear hw0 hw1 hw2 hw3; (cases l12 <;> simp_all)
            have f14 : l14 = false := by cases hh : l14 with | false => rfl | true => exact absurd ((c14 hh).1) (by rw [q13]; simp)
            have hO := hw2 e12 f14
            clear hw0 hw1 hw2 hw3 hb
            clear hi' hlt'
            subst q13 e0 e1 e2 e3 e4 e5 e6 e7 e8 e9 e10 e11 e12 f14
            clear c2
            clear c3
            clear c6
            clear c7
            clear c8
            clear c9
            clear c11
            clear c12
            clear c13
            clear c14
            refine wpOpIn_step rfl (fun K hK => ?_)
            simp only [Rg.selD_t, Rg.selD_f]
            go_simp
            refine hK _ _ ?_
            exact ⟨true, true, true, true, true, true, true, true, true, true, true, true, true, true, false, Bs, va, vc, rfl, rfl, fun _ => rfl, fun _ => rfl, fun _ => rfl, fun _ => rfl, fun _ => ⟨rfl, rfl⟩, fun _ => rfl, fun _ => rfl, fun _ => ⟨rfl, rfl⟩, fun _ => ⟨rfl, rfl, rfl, rfl, rfl, rfl, rfl, rfl, rfl, rfl, rfl, rfl, rfl⟩, (fun h => by cases h), (fun h => by cases h), (fun _ h => by cases h), (fun _ _ => hO), (fun h => by cases h)⟩
          · have q14 : l14 = false := by clear hw0 hw1 hw2 hw3; first | exact hb.1 | (cases l14 <;> simp_all)
            have e13 : l13 = true := by clear hw0 hw1 hw2 hw3; (cases l13 <;> simp_all)
            have e12 : l12 = true := by clear hw0 hw1 hw2 hw3; (cases l12 <;> simp_all)
            have e0 : l0 = true := by clear hw0 hw1 hw2 hw3; (cases l0 <;> simp_all)
            have e1 : l1 = true := by clear hw0 hw1 hw2 hw3; (cases l1 <;> simp_all)
            have e2 : l2 = true := by clear hw0 hw1 hw2 hw3; (cases l2 <;> simp_all)
            have e3 : l3 = true := by clear hw0 hw1 hw2 hw3; (cases l3 <;> simp_all)
            have e4 : l4 = true := by clear hw0 hw1 hw2 hw3; (cases l4 <;> simp_all)
            have e5 : l5 = true := by clear hw0 hw1 hw2 hw3; (cases l5 <;> simp_all)
            have e6 : l6 = true := by clear hw0 hw1 hw2 hw3; (cases l6 <;> simp_all)
            have e7 : l7 = true := by clear hw0 hw1 hw2 hw3; (cases l7 <;> simp_all)
            have e8 : l8 = true := by clear hw0 hw1 hw2 hw3; (cases l8 <;> simp_all)
            have e9 : l9 = true := by clear hw0 hw1 hw2 hw3; (cases l9 <;> simp_all)
            have e10 : l10 = true := by clear hw0 hw1 hw2 hw3; (cases l10 <;> simp_all)
            have e11 : l11 = true := by clear hw0 hw1 hw2 hw3; (cases l11 <;> simp_all)
            have hO := hw2 e12 q14
            clear hw0 hw1 hw2 hw3 hb
            obtain ⟨z8, z9, hS⟩ := HW.out _ _ _ hO
            clear hi' hlt'
            subst q14 e0 e1 e2 e3 e4 e5 e6 e7 e8 e9 e10 e11 e12 e13
            clear c2
            clear c3
            clear c6
            clear c7
            clear c8
            clear c9
            clear c11
            clear c12
            clear c13
            clear c14
            refine wpOpIn_step rfl (fun K hK => ?_)
            simp only [Rg.selD_t]
            go_simp
            refine hK _ _ ?_
            exact ⟨true, true, true, true, true, true, true, true, true, true, true, true, true, true, true, Bs, va, vc, rfl, rfl, fun _ => rfl, fun _ => rfl, fun _ => rfl, fun _ => rfl, fun _ => ⟨rfl, rfl⟩, fun _ => rfl, fun _ => rfl, fun _ => ⟨rfl, rfl⟩, fun _ => ⟨rfl, rfl, rfl, rfl, rfl, rfl, rfl, rfl, rfl, rfl, rfl, rfl, rfl⟩, fun _ => ⟨rfl, rfl, rfl, rfl, rfl, rfl, rfl, rfl, rfl, rfl, rfl, rfl, rfl, rfl⟩, (fun h => by cases h), (fun _ h => by cases h), (fun _ h => by cases h), (fun _ => hS)⟩
        case fin =>
          rintro listed a w' ⟨l0, l1, l2, l3, l4, l5, l6, l7, l8, l9, l10, l11, l12, l13, l14, Bs, va, vc, rfl, rfl, c2, c3, c6, c7, c8, c9, c11, c12, c13, c14, hw0, hw1, hw2, hw3⟩ hi'
          have hx := fun i => Ord.not_ready hi' (i := i)
          have g0 : l0 = true := by have g := hx 0 (by simp); simp [Region.binds] at g; exact g
          have g1 : l1 = true := by have g := hx 1 (by simp); simp [Region.binds] at g; exact g
          have g2 : l2 = true := by have g := hx 2 (by simp); simp [Region.binds] at g; cases hh : l2 with | true => rfl | false => exact absurd (g hh ) (by rw [g1]; simp)
          have g3 : l3 = true := by have g := hx 3 (by simp); simp [Region.binds] at g; cases hh : l3 with | true => rfl | false => exact absurd (g hh ) (by rw [g2]; simp)
          have g4 : l4 = true := by have g := hx 4 (by simp); simp [Region.binds] at g; exact g
          have g5 : l5 = true := by have g := hx 5 (by simp); simp [Region.binds] at g; exact g
          have g6 : l6 = true := by have g := hx 6 (by simp); simp [Region.binds] at g; cases hh : l6 with | true => rfl | false => exact absurd (g hh ) (by rw [g5]; simp)
          have g7 : l7 = true := by have g := hx 7 (by simp); simp [Region.binds] at g; cases hh : l7 with | true => rfl | false => exact absurd (g hh ) (by rw [g6]; simp)
          have g8 : l8 = true := by have g := hx 8 (by simp); simp [Region.binds] at g; cases hh : l8 with | true => rfl | false => exact absurd (g hh g4) (by rw [g7]; simp)
          have g9 : l9 = true := by have g := hx 9 (by simp); simp [Region.binds] at g; cases hh : l9 with | true => rfl | false => exact absurd (g hh ) (by rw [g8]; simp)
          have g10 : l10 = true := by have g := hx 10 (by simp); simp [Region.binds] at g; exact g
          have g11 : l11 = true := by have g := hx 11 (by simp); simp [Region.binds] at g; cases hh : l11 with | true => rfl | false => exact absurd (g hh ) (by rw [g10]; simp)
          have g12 : l12 = true := by have g := hx 12 (by simp); simp [Region.binds] at g; cases hh : l12 with | true => rfl | false => exact absurd (g hh g9) (by rw [g11]; simp)
          have g13 : l13 = true := by have g := hx 13 (by simp); simp [Region.binds] at g; clear hw0 hw1 hw2 hw3; (cases l13 <;> simp_all)
          have g14 : l14 = true := by have g := hx 14 (by simp); simp [Region.binds] at g; clear hw0 hw1 hw2 hw3; (cases l14 <;> simp_all)
          subst g0 g1 g2 g3 g4 g5 g6 g7 g8 g9 g10 g11 g12 g13 g14
          have hO := hw3 rfl
          clear c2 c3 c6 c7 c8 c9 c11 c12 c13 c14 hi' hx hw0 hw1 hw2 hw3
          simp only [Rg.selD_t]
          obtain ⟨hOUA, hOUT, hPA, hrA, hrowA⟩ := HZ.out
          obtain ⟨hP, hvl, hkw, hs, htk, hq, hu, hlq, hrr, elq, eLN, kA, bA⟩ := HX.out
          have hO2 : OUT w' := hO
          rw [hOUT] at hO2
          obtain ⟨va', vc', w7, hA, rfl⟩ := hO2
          rw [hOUA] at hA
          have hap := hPA.app (s := s) (v' := .slice va' (LN + 1) vc') (w4 := w7) hu hlq (by rw [elq, eLN]; unfold cellsS; rw [hq]; exact hA.1) hA.2.1 hA.2.2 (by rw [hvl]) hrA
          have kk := ((hkw.andNu kA).trans hA.2.1 (fun g' hl' e => by have := (hrowA.lt g' e.symm).1; omega)).andSet ⟨w.heap.size, q, none⟩ (.slice va' (LN + 1) vc') (.inl (Nat.le_refl _))
          have HZ2 := hide (And.intro hap kk)
          clear hOUA hOUT hPA hrA hrowA hA hap kk hO HZ HR HV HW HQ
          clear hP hvl hkw hs htk hq hu hlq hrr elq eLN kA bA
          go_wp2
          obtain ⟨hP, hvl, hkw, hs, htk, hq, hu, hlq, hrr, elq, eLN, kA, bA⟩ := HX.out
          refine ⟨⟨i + 1, by go_num, by omega, hide ⟨vs.set q (.slice va' (LN + 1) vc'), ?_, (List.length_set).trans hvl, HZ2.out.2⟩⟩, by simp [intOf]; omega⟩
          rw [htk, hsts_more _ _ hq hn0]
          exact HZ2.out.1
      · have hd : decide ((s.n : Int) > 0) = false := by simp; omega
        clear hP hvl hkw hs htk hq hu hlq hrr elq eLN kA bA
        go_wp2
        obtain ⟨hP, hvl, hkw, hs, htk, hq, hu, hlq, hrr, elq, eLN, kA, bA⟩ := HX.out
        refine ⟨⟨i + 1, by go_num, by omega, hide ⟨vs, ?_, hvl, hkw.andNu kA⟩⟩, by simp [intOf]; omega⟩
        rw [htk, hsts_same _ _ _ (by omega)]
        exact ⟨(own_keep hP.row (fun g e => kA.block g (own_lt hP.row e) (fun h => h))), hP.len, fun j u' m hu' hm => own_keep (hP.each j u' m hu' hm) (fun g e => kA.block g (own_lt (hP.each j u' m hu' hm) e) (fun h => h)), hP.apart⟩
    · have hge : ¬ (i : Int) < (N : Int) := by omega
      obtain rfl : N = i := by omega
      clear hP hvl hkw
      go_wp2
      go_ret
      obtain ⟨vs, hP, hvl, hkw⟩ := hI.out
      refine ⟨_, rfl, ⟨vs, ?_⟩, hkw⟩
      rw [← HU.out.2.1, List.take_length] at hP
      exact hP
end Go.Proofs.YtbifmcadllilhaaGreat.Rg
