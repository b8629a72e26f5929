import Derived.Test.YtffcnonhhfhlhaaDoorLdG
import Derived.Test.YtffcnonhhfhlhaaDoorTxD
namespace Go.Proofs.YtffcnonhhfhlhaaDoor.Rg
open Go.RowKit Go.Shelf Go.Sort
open Go.Proofs.YtffcnonhhfhlhaaDoor.It
set_option linter.unusedVariables false

/-- what the document's Load answers -/
def Rrs (w w' : World) (lim : Int) (M : List Sg) (L : Int) (v : Value) (f : Int) : Prop :=
  (¬ (1 ≤ lim ∧ lim ≤ 8192) ∧ f = 63 ∧ L = 0 ∧ v = .slice none 0 0) ∨
  ((1 ≤ lim ∧ lim ≤ 8192) ∧ ∃ p f', Frs M p f' ∧ f = refC lim M f' ∧ ((f ≠ 0 ∧ L = 0 ∧ v = .slice none 0 0) ∨ (f = 0 ∧ L = lim ∧ w'.ownsRow w.heap.size 26 3 v (lays [] M).length (cells (lays [] M)))))

theorem cell2' {w : World} {b : Nat} {x0 x1 : Value} {t : TypeId} (h : w.heap[b]? = some (.cells #[x0, x1] t (0, 0))) : w.cell? ⟨b, 0, none⟩ = some x0 ∧ w.cell? ⟨b, 1, none⟩ = some x1 := by
  refine ⟨?_, ?_⟩ <;> simp [World.cell?, h]

set_option maxRecDepth 100000 in
set_option maxHeartbeats 1000000 in
theorem refLoad_any (w : World) (u : Value) (M : List Sg) (hM : Sgs w u M) (hlen : (M.length : Int) ≤ 5864062014634) (lim : Int) :
    Calls Tryd.prog 40 #[u, .int .i64 lim] w fun e w' => ∃ L v f, e = .returned (.tuple #[.agg #[.int .i64 L, v], .int .i64 f]) ∧ Rrs w w' lim M L v f ∧ Kp Nu w w' := by
  obtain ⟨ad, cap, hu⟩ := hM.slice
  have K0 := Kp.alloc w (.cells #[.int .i64 0, .slice none 0 0] 29) Nu
  by_cases h1 : lim < 1
  · generalize M.length = N at hu hlen
    subst hu
    clear hM
    go_enter Tryd.func40, Tryd.ntmps40
    go_wp2
    exact bodyPost_ret (v := .tuple #[.agg #[.int .i64 0, .slice none 0 0], .int .i64 63]) (by simp [results, Tryd.results40, go_sem]) rfl ⟨0, _, _, rfl, .inl ⟨by omega, rfl, rfl, rfl⟩, K0⟩
  by_cases h2 : lim > 8192
  · generalize M.length = N at hu hlen
    subst hu
    clear hM
    go_enter Tryd.func40, Tryd.ntmps40
    go_wp2
    exact bodyPost_ret (v := .tuple #[.agg #[.int .i64 0, .slice none 0 0], .int .i64 63]) (by simp [results, Tryd.results40, go_sem]) rfl ⟨0, _, _, rfl, .inl ⟨by omega, rfl, rfl, rfl⟩, K0⟩
  have hl : 1 ≤ lim ∧ lim ≤ 8192 := ⟨by omega, by omega⟩
  have nuS : ∀ {W W' : World}, Sgs W u M → Kp Nu W W' → Sgs W' u M := fun {W W'} h k => by
    rcases h with h | ⟨b, off, cp, h0, h3⟩
    · exact .inl h
    · exact .inr ⟨b, off, cp, h0, fun i s hs => ⟨cell_nu (h3 i s hs).c0 k, cell_nu (h3 i s hs).c1 k, cell_nu (h3 i s hs).c2 k, (h3 i s hs).fit⟩⟩
  have FA := fault_refA _ u M (nuS hM K0) (by omega)
  have HM := hide (nuS hM K0)
  have HL := hide hlen
  have HNS : Hid (∀ (W W' : World), Sgs W u M → Kp Nu W W' → Sgs W' u M) := fun W W' h k => nuS h k
  have hb0 : (w.alloc (.cells #[.int .i64 0, .slice none 0 0] 29)).heap[w.heap.size]? = some (.cells #[.int .i64 0, .slice none 0 0] 29 (0, 0)) := heap_alloc_new w _
  have HB := hide hb0
  have HK0 := hide K0
  have HUU := hide hu
  generalize hN : M.length = N at hu hlen
  have HNN := hide hN
  subst hu
  clear hM nuS hb0 K0 hN
  go_enter Tryd.func40, Tryd.ntmps40
  go_wp2_with fail
  refine FA.mono ?_; rintro e w2 ⟨p, f, rfl, hF, hk2⟩
  have HF := hide hF
  have hb2 := (hk2.block _ (blk_lt HB.out) (fun h => h)).trans HB.out
  obtain ⟨a0, a1⟩ := cell2' hb2
  have g0 := free3 hb2 0
  have g1 := free3 hb2 1
  clear FA hF
  by_cases hf : f = 0
  · subst hf
    have JO := join_any w2 _ M (HNS.out _ _ HM.out hk2) HL.out
    have HB2 := hide hb2
    have HK2 := hide (HK0.out.andNu hk2)
    clear hb2 hk2 a0 a1 g0 g1
    go_wp2_with fail
    refine JO.mono ?_; rintro e w3 ⟨u', rfl, ho, hk3⟩
    obtain ⟨ad3, cp3, hu3⟩ := own_slice ho
    have hb3 := (hk3.block _ (blk_lt HB2.out) (fun h => h)).trans HB2.out
    obtain ⟨a0, a1⟩ := cell2' hb3
    have g0 := free3 hb3 0
    have g1 := free3 hb3 1
    have HK3 := hide (HK2.out.andNu hk3)
    have hsz : w.heap.size ≤ w2.heap.size := HK2.out.size
    have HO := hide ho
    obtain ⟨NL, hNL⟩ : ∃ NL, (lays [] M).length = NL := ⟨_, rfl⟩
    have HNL := hide hNL
    rw [hNL] at hu3
    subst hu3
    have HB3 := hide hb3
    clear JO ho hk3 hNL hb3
    by_cases hgt : (NL : Int) > lim
    · go_wp2
      have hb4 := set3 (set3 HB3.out 0 (.int .i64 0)) 1 (.slice none 0 0)
      obtain ⟨y0, y1⟩ := cell2' (show ((w3.setCell ⟨w.heap.size, 0, none⟩ (.int .i64 0)).setCell ⟨w.heap.size, 1, none⟩ (.slice none 0 0)).heap[w.heap.size]? = some (.cells #[.int .i64 0, .slice none 0 0] 29 (0, 0)) from hb4)
      exact bodyPost_ret (v := .tuple #[.agg #[.int .i64 0, .slice none 0 0], .int .i64 61]) (by simp [results, Tryd.results40, go_sem, y0, y1]) rfl ⟨0, _, _, rfl, .inr ⟨hl, p, 0, HF.out, by unfold refC; rw [if_neg (by omega), HNL.out, if_pos (by omega)], .inl ⟨by omega, rfl, rfl⟩⟩, (HK3.out.andSet _ _ (.inl (Nat.le_refl _))).andSet _ _ (.inl (Nat.le_refl _))⟩
    · go_wp2
      have hb4 := set3 (set3 HB3.out 0 (.int .i64 lim)) 1 (.slice ad3 NL cp3)
      obtain ⟨y0, y1⟩ := cell2' (show ((w3.setCell ⟨w.heap.size, 0, none⟩ (.int .i64 lim)).setCell ⟨w.heap.size, 1, none⟩ (.slice ad3 NL cp3)).heap[w.heap.size]? = some (.cells #[.int .i64 lim, .slice ad3 NL cp3] 29 (0, 0)) from hb4)
      refine bodyPost_ret (v := .tuple #[.agg #[.int .i64 lim, .slice ad3 NL cp3], .int .i64 0]) (by simp [results, Tryd.results40, go_sem, y0, y1]) rfl ⟨lim, _, _, rfl, .inr ⟨hl, p, 0, HF.out, by unfold refC; rw [if_neg (by omega), HNL.out, if_neg (by omega)], .inr ⟨rfl, rfl, ?_⟩⟩, (HK3.out.andSet _ _ (.inl (Nat.le_refl _))).andSet _ _ (.inl (Nat.le_refl _))⟩
      have kk : Kp (fun k => k = w.heap.size) w3 ((w3.setCell ⟨w.heap.size, 0, none⟩ (.int .i64 lim)).setCell ⟨w.heap.size, 1, none⟩ (.slice ad3 NL cp3)) := ((Kp.setCell w3 ⟨w.heap.size, 0, none⟩ _).trans (Kp.setCell _ ⟨w.heap.size, 1, none⟩ _) (fun _ _ h => h))
      have h2sz : w.heap.size < w2.heap.size := blk_lt HB2.out
      refine own_base (base := w2.heap.size) ?_ hsz
      exact own_keep HO.out (fun g hg => kk.block g (own_lt HO.out hg) (fun e => by have e2 : g = w.heap.size := e; have := (HO.out.lt g hg).1; omega))
  · have hfb : (f != 0) = true := by simpa using hf
    have HK2 := hide (HK0.out.andNu hk2)
    have HB2 := hide hb2
    clear hk2 hb2
    go_wp2
    have hb4 := set3 (set3 HB2.out 0 (.int .i64 0)) 1 (.slice none 0 0)
    obtain ⟨y0, y1⟩ := cell2' (show ((w2.setCell ⟨w.heap.size, 0, none⟩ (.int .i64 0)).setCell ⟨w.heap.size, 1, none⟩ (.slice none 0 0)).heap[w.heap.size]? = some (.cells #[.int .i64 0, .slice none 0 0] 29 (0, 0)) from hb4)
    exact bodyPost_ret (v := .tuple #[.agg #[.int .i64 0, .slice none 0 0], .int .i64 f]) (by simp [results, Tryd.results40, go_sem, y0, y1]) rfl ⟨0, _, _, rfl, .inr ⟨hl, p, f, HF.out, by unfold refC; rw [if_pos hf], .inl ⟨hf, rfl, rfl⟩⟩, (HK2.out.andSet _ _ (.inl (Nat.le_refl _))).andSet _ _ (.inl (Nat.le_refl _))⟩
end Go.Proofs.YtffcnonhhfhlhaaDoor.Rg
namespace Go.Proofs.YtffcnonhhfhlhaaDoor.Rg
open Go.RowKit Go.Shelf Go.Sort
open Go.Proofs.YtffcnonhhfhlhaaDoor.It
set_option linter.unusedVariables false

theorem cat2 (a b : List UInt8) : ByteArray.mk a.toArray ++ ByteArray.mk b.toArray = ByteArray.mk (a ++ b).toArray := ByteArray.mk_append_mk a b
theorem row_kp {w1 wr w3 : World} {v : Value} {n : Nat} {xs : List Value} (hk : Kp Nu w1 wr) (ho : wr.ownsRow w1.heap.size 5 1 v n xs) (o : Obj) (hg : (wr.alloc o).grownBy w3 v.ownBlock) : Kp Nu w1 w3 :=
  (hk.andAlloc o).trans (Kp.of_grown hg) (fun i hi e => by have := (ho.lt i e.symm).1; omega)

set_option maxRecDepth 100000 in
set_option maxHeartbeats 2000000 in
theorem refText_any (w : World) (v : Value) (L : List Sg) (LI : Int) (hrs : Rs w v L) (hlen : L.length ≤ 8192) (hb : ∀ s ∈ L, SgB s) :
    Calls Tryd.prog 41 #[.agg #[.int .i64 LI, v]] w fun e w' => e = .returned (.string ⟨(txt L).toArray⟩) ∧ Kp Nu w w' := by
  have mixed : Tryd.prog.follows .mixedOrders = true := by kernel_rfl
  obtain ⟨i0, hi, hz0, hz1, hz2⟩ := info_parts info5
  obtain ⟨rr, off, cap, hv, hc⟩ := hrs
  have HC := hide hc
  have HB := hide hb
  obtain ⟨N, hN⟩ : ∃ N, L.length = N := ⟨_, rfl⟩
  rw [hN] at hv hlen
  have HN := hide hN
  obtain ⟨w1, hw1⟩ : ∃ w1, w.alloc (.cells #[.int .i64 LI, v] 29) = w1 := ⟨_, rfl⟩
  have KA : Kp Nu w w1 := by rw [← hw1]; exact Kp.alloc w _ Nu
  have b0 : w1.heap[w.heap.size]? = some (.cells #[.int .i64 LI, v] 29 (0, 0)) := by rw [← hw1]; exact heap_alloc_new w _
  have HKA := hide KA
  have HB0 := hide b0
  subst hv
  clear hc hb hN KA b0
  go_enter Tryd.func41, Tryd.ntmps41
  go_wp2_with fail
  go_loopw [3, 4] (fun bv i wr => ∃ (k n : Nat) (adl : Option Addr) (cpl : Nat), k ≤ N ∧ i = .int .i64 (k : Int) ∧ bv = .slice adl n cpl ∧ n ≤ 600000 ∧ Hid ((txt (L.take k)).length = n ∧ wr.ownsRow w1.heap.size 5 1 (.slice adl n cpl) n (Lib.byteCells (txt (L.take k))) ∧ Kp Nu w1 wr)) (fun _ i _ => N - (intOf i).toNat)
  case atStart => exact ⟨0, 0, none, 0, by omega, rfl, rfl, by omega, ⟨rfl, ⟨rfl, .inl ⟨rfl, rfl⟩⟩, Kp.refl _ _⟩⟩
  case round =>
    obtain ⟨k, n, adl, cpl, hk, rfl, rfl, hn, hI⟩ := hrel
    by_cases hlt : k < N
    · have hkL : k < L.length := by rw [HN.out]; exact hlt
      obtain ⟨s, hs⟩ : ∃ s, L[k]? = some s := ⟨_, List.getElem?_eq_getElem hkL⟩
      have hsb := HB.out s (List.mem_of_getElem? hs)
      obtain ⟨hl, hown, hkp⟩ := hI.out
      have CD : ∀ W, Kp Nu w1 W → W.cell? ⟨w.heap.size, 1, none⟩ = some (.slice (some ⟨rr, off, none⟩) N cap) ∧ W.cell? ⟨rr, off + k * 3, none⟩ = some (.int .u64 s.lo) ∧ W.cell? ⟨rr, off + k * 3 + 1, none⟩ = some (.int .u64 s.hi) ∧ W.cell? ⟨rr, off + k * 3 + 2, none⟩ = some (.int .u8 s.h) := fun W hW => by
        obtain ⟨x0, x1, x2⟩ := HC.out k s hs
        have hx := HKA.out.andNu hW
        refine ⟨?_, cell_nu x0 hx, cell_nu x1 hx, cell_nu x2 hx⟩
        have hb := (hW.block _ (blk_lt HB0.out) (fun h => h)).trans HB0.out
        simp [World.cell?, hb]
      have d1 := dec_len s.lo.toNat (by have := hsb.l0; have := hsb.l1; omega)
      have d2 := dec_len s.hi.toNat (by have := hsb.h0; have := hsb.h1; omega)
      have d3 := dec_len s.h.toNat (by have := hsb.o0; have := hsb.o1; omega)
      have l0 := hsb.l0
      have l1 := hsb.l1
      have h0 := hsb.h0
      have h1 := hsb.h1
      have o0 := hsb.o0
      have o1 : s.h < 18446744073709551616 := by have := hsb.o1; omega
      have hw3 : IntKind.u64.wrap s.h = s.h := by rw [IntKind.wrap_u64]; have := hsb.o0; have := hsb.o1; omega
      have hltI : (k : Int) < (N : Int) := by omega
      have hk0 : (0 : Int) ≤ (k : Int) := by omega
      have hkN : (k : Int) ≤ 8192 := by omega
      have hsz1 := hkp.size
      have e1 : L.take (k + 1) = L.take k ++ [s] := by rw [List.take_add_one, hs, Option.toList_some]
      have hwl := wrd_len hsb
      have hn2 : (txt (L.take (k + 1))).length ≤ 516096 := by
        have := txt_len (L.take (k + 1)) (fun t ht => HB.out t (List.mem_of_mem_take ht))
        simp at this; omega
      have HW : Hid (wrd s = Lib.decDigits s.lo.toNat ++ [45] ++ Lib.decDigits s.hi.toNat ++ [58] ++ Lib.decDigits s.h.toNat) := rfl
      obtain ⟨cb, _, _, _⟩ := CD _ hkp
      have hcat : ByteArray.mk (Lib.decDigits s.lo.toNat).toArray ++ ByteArray.mk #[45] ++ ByteArray.mk (Lib.decDigits s.hi.toNat).toArray ++ ByteArray.mk #[58] ++ ByteArray.mk (Lib.decDigits s.h.toNat).toArray = ByteArray.mk (wrd s).toArray := by
        rw [show (#[45] : Array UInt8) = [45].toArray from rfl, show (#[58] : Array UInt8) = [58].toArray from rfl, cat2, cat2, cat2, cat2]; rfl
      have hszw : ByteArray.size ⟨(wrd s).toArray⟩ = (wrd s).length := by simp [ByteArray.size]
      have hstr : Lib.strCells ⟨(wrd s).toArray⟩ = Lib.byteCells (wrd s) := by simp [Lib.strCells, Lib.byteCells]
      by_cases hk1 : k = 0
      · have hz : ¬ (0 : Int) < (k : Int) := by omega
        have HO := hide hown
        have HKB := hide hkp
        have hTT : Lib.byteCells (txt (L.take (k + 1))) = Lib.byteCells (txt (L.take k)) ++ Lib.byteCells (wrd s) := by rw [e1, hk1, List.take_zero, List.nil_append, txt_one, ← byteCells_append]; rfl
        have hTL : (txt (L.take (k + 1))).length = n + (wrd s).length := by rw [e1, ← hl, hk1, List.take_zero, List.nil_append, txt_one]; simp [txt]
        have HTT := hide hTT
        have HTL := hide hTL
        clear hown hI hl hsb hk1 hTT hkp
        go_wp2_with fail
        have CB : ∀ W, Kp Nu wr W → W.cell? ⟨w.heap.size, 1, none⟩ = some (.slice (some ⟨rr, off, none⟩) N cap) ∧ W.cell? ⟨rr, off + k * 3, none⟩ = some (.int .u64 s.lo) ∧ W.cell? ⟨rr, off + k * 3 + 1, none⟩ = some (.int .u64 s.hi) ∧ W.cell? ⟨rr, off + k * 3 + 2, none⟩ = some (.int .u8 s.h) := fun W hW => CD W (HKB.out.andNu hW)
        have kk0 : Kp Nu wr wr := Kp.refl _ _
        clear CD
        go_region_held (fun W => W.cell? ⟨w.heap.size, 1, none⟩ = some (.slice (some ⟨rr, off, none⟩) N cap) ∧ W.cell? ⟨rr, off + k * 3, none⟩ = some (.int .u64 s.lo) ∧ W.cell? ⟨rr, off + k * 3 + 1, none⟩ = some (.int .u64 s.hi) ∧ W.cell? ⟨rr, off + k * 3 + 2, none⟩ = some (.int .u8 s.h)) (first | (refine CB _ ?_; first | assumption | exact Kp.drew (by assumption))) (first
          | (go_at_call 71; refine (refDigits_any _ ?_ ?_ _).mono ?_; (first | assumption | (rw [hw3]; assumption)); (first | assumption | (rw [hw3]; assumption)); rintro e wa ⟨rfl, hka⟩; have hkA : Kp Nu wr wa := Kp.andNu (by first | assumption | exact Kp.drew (by assumption)) hka))
        all_goals
          have HZ := hide (own_keep HO.out (fun g e => hkA.block g (own_lt HO.out e) (fun h => h)))
          have HKZ := hide (HKB.out.andNu hkA)
          clear CB
          go_wp2_with (at_builtin; refine Lib.wpList_append_own_string _ rfl _ _ 100 9 rfl w1.heap.size 5 i0 Tryd.underlying100 Tryd.underlying9 hi hz0 hz1 hz2 _ _ _ rfl HZ.out ⟨(wrd s).toArray⟩ rfl (by rw [hszw]; unfold maxLen; omega) (by rw [hszw]; omega) HKZ.out.size ?_; intro v4 w4 hown4 hg4 _)
          rw [hszw, hstr] at hown4
          obtain ⟨ad4, cp4, hv4⟩ := own_slice hown4
          have K4 : Kp Nu w1 w4 := HKZ.out.trans (Kp.of_grown hg4) (fun i hi e => by have := (HZ.out.lt i e.symm).1; omega)
          subst hv4
          exact ⟨⟨k + 1, _, ad4, cp4, by omega, by go_num, rfl, by omega, ⟨HTL.out, by rw [HTT.out]; exact hown4, K4⟩⟩, by simp [intOf]; omega⟩
      · have hz : (0 : Int) < (k : Int) := by omega
        have HO0 := hide hown
        have hkn : L.take k ≠ [] := by
          intro h
          have := congrArg List.length h
          rw [List.length_take, List.length_nil] at this
          omega
        have hTT : Lib.byteCells (txt (L.take (k + 1))) = (Lib.byteCells (txt (L.take k)) ++ [.int .u8 32]) ++ Lib.byteCells (wrd s) := by rw [e1, txt_snoc _ _ hkn, byteCells_append]; simp [Lib.byteCells]
        have hTL : (txt (L.take (k + 1))).length = n + 1 + (wrd s).length := by rw [e1, txt_snoc _ _ hkn, ← hl]; simp; omega
        have HTT := hide hTT
        have HTL := hide hTL
        have HKP := hide hkp
        clear hown hI hl hsb hk1 hTT hkp hkn
        go_wp2_with (at_builtin; refine wpList_append_own _ rfl _ _ 100 rfl w1.heap.size 5 i0 _ 1 1 Tryd.underlying100 hi hz0 hz1 hz2 rfl (by decide) _ n (Lib.byteCells (txt (L.take k))) rfl (HO0.out.alloc _) ⟨wr.heap.size, 0, none⟩ 1 1 [.int .u8 32] rfl rfl (new1b _ _) (by simp [Value.oneCell']) (by unfold maxLen; omega) (by omega) (by simp; omega) ?_; intro v3 w3 hown3 hg3 _; have HKB := hide (row_kp HKP.out HO0.out _ hg3); obtain ⟨ad3, cp3, hv3⟩ := own_slice hown3; have HO := hide hown3; subst hv3; clear hown3 hg3 cb)
        have CB : ∀ W, Kp Nu w3 W → W.cell? ⟨w.heap.size, 1, none⟩ = some (.slice (some ⟨rr, off, none⟩) N cap) ∧ W.cell? ⟨rr, off + k * 3, none⟩ = some (.int .u64 s.lo) ∧ W.cell? ⟨rr, off + k * 3 + 1, none⟩ = some (.int .u64 s.hi) ∧ W.cell? ⟨rr, off + k * 3 + 2, none⟩ = some (.int .u8 s.h) := fun W hW => CD W (HKB.out.andNu hW)
        have kk0 : Kp Nu w3 w3 := Kp.refl _ _
        clear CD
        go_region_held (fun W => W.cell? ⟨w.heap.size, 1, none⟩ = some (.slice (some ⟨rr, off, none⟩) N cap) ∧ W.cell? ⟨rr, off + k * 3, none⟩ = some (.int .u64 s.lo) ∧ W.cell? ⟨rr, off + k * 3 + 1, none⟩ = some (.int .u64 s.hi) ∧ W.cell? ⟨rr, off + k * 3 + 2, none⟩ = some (.int .u8 s.h)) (first | (refine CB _ ?_; first | assumption | exact Kp.drew (by assumption))) (first
          | (go_at_call 71; refine (refDigits_any _ ?_ ?_ _).mono ?_; (first | assumption | (rw [hw3]; assumption)); (first | assumption | (rw [hw3]; assumption)); rintro e wa ⟨rfl, hka⟩; have hkA : Kp Nu w3 wa := Kp.andNu (by first | assumption | exact Kp.drew (by assumption)) hka))
        all_goals
          have HZ := hide (own_keep HO.out (fun g e => hkA.block g (own_lt HO.out e) (fun h => h)))
          have HKZ := hide (HKB.out.andNu hkA)
          clear CB
          go_wp2_with (at_builtin; refine Lib.wpList_append_own_string _ rfl _ _ 100 9 rfl w1.heap.size 5 i0 Tryd.underlying100 Tryd.underlying9 hi hz0 hz1 hz2 _ _ _ rfl HZ.out ⟨(wrd s).toArray⟩ rfl (by rw [hszw]; unfold maxLen; omega) (by rw [hszw]; omega) HKZ.out.size ?_; intro v4 w4 hown4 hg4 _)
          rw [hszw, hstr] at hown4
          obtain ⟨ad4, cp4, hv4⟩ := own_slice hown4
          have K4 : Kp Nu w1 w4 := HKZ.out.trans (Kp.of_grown hg4) (fun i hi e => by have := (HZ.out.lt i e.symm).1; omega)
          subst hv4
          exact ⟨⟨k + 1, _, ad4, cp4, by omega, by go_num, rfl, by omega, ⟨HTL.out, by rw [HTT.out]; exact hown4, K4⟩⟩, by simp [intOf]; omega⟩
    · have hkN : k = N := by omega
      obtain ⟨hl, hown, hkp⟩ := hI.out
      have hge : ¬ (k : Int) < (N : Int) := by omega
      have cb : wr.cell? ⟨w.heap.size, 1, none⟩ = some (.slice (some ⟨rr, off, none⟩) N cap) := by
        have hb := (hkp.block _ (blk_lt HB0.out) (fun h => h)).trans HB0.out
        simp [World.cell?, hb]
      have cv : (convert 100 9 (.slice adl n cpl)).run Tryd.prog wr = .ok (.string ⟨(txt L).toArray⟩) wr := by
        have e : L.take k = L := List.take_of_length_le (by rw [HN.out]; omega)
        rw [e] at hown hl
        exact conv_row (by rw [hl]; exact hown)
      have HKF := hide (HKA.out.andNu hkp)
      clear hI hown hkp hl hkN
      go_wp2
      go_ret
      exact ⟨rfl, HKF.out⟩
end Go.Proofs.YtffcnonhhfhlhaaDoor.Rg
