import Derived.Test.YtffcnonhhfhlhaaDoorNlE
namespace Go.Proofs.YtffcnonhhfhlhaaDoor.Rg
open Go.RowKit Go.Shelf Go.Sort Go.Maps
open Go.Proofs.YtffcnonhhfhlhaaDoor.It
attribute [local go_sem] Oper.semAt_some
set_option linter.unusedVariables false

/-- a share -/
structure Sh where
  h : Int
  n : Int
  k : Int
def encS (s : Sh) : Value := .agg #[.int .u8 s.h, .int .i64 s.n, .int .u64 s.k]
def datS (s : Sh) : DataW Unit := .agg [.lit (.int .u8 s.h), .lit (.int .i64 s.n), .lit (.int .u64 s.k)]
def shElem (v : Value) : Option (DataW Unit × List MemPlace) :=
  match v with
  | .agg ⟨[.int .u8 h, .int .i64 n, .int .u64 k]⟩ => some (datS ⟨h, n, k⟩, [])
  | _ => none
theorem shElem_inv {v : Value} {y : DataW Unit × List MemPlace} (h : shElem v = some y) : ∃ s, v = encS s ∧ y = (datS s, []) := by
  unfold shElem at h
  split at h
  · cases h; exact ⟨⟨_, _, _⟩, rfl, rfl⟩
  · cases h
theorem u103 : Tryd.prog.underlying 103 = some (.map 24 105) := Tryd.underlying103
theorem hostKeyed : Keyed Tryd.prog 24 := int_keyed Tryd.underlying24
theorem info105 : (Tryd.prog.info? 105).map (fun i => (i.zero, i.size, i.bytes)) = some (some (.agg #[.int .u8 0, .int .i64 0, .int .u64 0]), 3, 24) := by kernel_rfl
/-- the map and its box -/
structure Mp (w V : World) (bm B3 : Nat) : Prop where
  map : V.ownsMap Tryd.prog 24 shElem bm 0 (.map [])
  box : V.heap[B3]? = some (.cells #[.map (some bm)] 103 (0, 0))
  be : Below w.heap.size w V
theorem map_nu {w w' : World} {bm nb : Nat} {D : DataW Unit} (h : w.ownsMap Tryd.prog 24 shElem bm nb D) (k : Kp Nu w w') : w'.ownsMap Tryd.prog 24 shElem bm nb D := by
  obtain ⟨es, clock, hb, r⟩ := h
  exact ⟨es, clock, (k.block bm (blk_lt hb) (fun h => h)).trans hb, r⟩
theorem Mp.own {β : Type} {w : World} {bm B3 B : Nat} (hb : bm < B) (hw : w.heap.size ≤ B) : OwnFrom B (fun (_ : β) V => Mp w V bm B3) := fun s X Z row hs hg hr => by
  obtain ⟨h1, h3, h4⟩ := hs
  refine ⟨h1.kept hg (fun e => ?_), own_cells (β := Unit) B _ _ _ _ () X Z row h3 hg hr, ownFrom_below (Nat.le_refl _) hw () X Z row h4 hg hr⟩
  have := (hr bm e.symm).1
  omega
theorem Mp.nu {w V V' : World} {bm B3 : Nat} (h : Mp w V bm B3) (k : Kp Nu V V') (hV : w.heap.size ≤ V.heap.size) : Mp w V' bm B3 := by
  obtain ⟨h1, h3, h4⟩ := h
  exact ⟨map_nu h1 k, (k.block _ (blk_lt h3) (fun h => h)).trans h3, h4.trans (k.below _ hV (fun _ h => h.elim))⟩

set_option maxRecDepth 100000 in
set_option maxHeartbeats 2000000 in
theorem shares_nil (w : World) : Calls Tryd.prog 26 #[.pointer none] w fun e w' => ∃ ad cap, e = .returned (.slice ad 0 cap) ∧ Kp Nu w w' := by
  have hmm := @run_makeMap Tryd.prog
  have K2 := (Kp.alloc w (.map #[] 0) Nu).andAlloc (.cells #[.map (some w.heap.size)] 103)
  have AL := all_nil ((w.alloc (.map #[] 0)).alloc (.cells #[.map (some w.heap.size)] 103))
  refine (callsIn_wide (n := 4)).1 ?_
  refine callsIn_of_wp_marks Tryd.func26 rfl trivial ?_ rfl
  simp only [Tryd.ntmps26, List.size_toArray, List.length_cons, List.length_nil, Nat.reduceAdd, Nat.reduceSub, Array.replicate_succ, Array.replicate_zero, List.push_toArray, List.append_toArray, List.nil_append, List.cons_append]
  gi_wp2_with fail
  refine ⟨trivial, (callsIn_wide.2 AL).mono ?_⟩
  rintro e w4 ⟨Bn, rfl, hbn, hk4⟩
  have D0 : Mp w ((w.alloc (.map #[] 0)).alloc (.cells #[.map (some w.heap.size)] 103)) w.heap.size (w.heap.size + 1) := by
    refine ⟨(World.ownsMap_made w Tryd.prog 24 shElem).alloc _, ?_, K2.toBelow⟩
    have := heap_alloc_new (w.alloc (.map #[] 0)) (.cells #[.map (some w.heap.size)] 103)
    rwa [World.size_alloc] at this
  have D4 := D0.nu hk4 K2.size
  have kw4 : Kp Nu w w4 := K2.andNu hk4
  have SQ := SeqO.of_stops fun n => from0_stops n Bn w4 hbn
  have hs4 : w.heap.size ≤ w4.heap.size := kw4.size
  have hsm : w.heap.size < w4.heap.size := by have := hk4.size; simp at this; omega
  generalize hbm : w.heap.size = bm at D4 ⊢
  generalize hB3 : bm + 1 = B3 at D4 ⊢
  clear AL D0 hk4 K2 hmm
  gi_wp2_with fail
  refine range_o (gf := 73) rfl (enters_of Tryd.func73 (by kernel_rfl) rfl) SQ (Below.refl _ _) (fun _ => rfl)
    (fun pre V => Mp w V bm B3) (fun _ _ _ => False)
    (Mp.own (by omega) hs4) (fun _ _ _ _ _ hs _ _ => hs) D4
    (fun x a' V => True) (fun x a' _ X Z row hs hg hr => trivial)
    ?assign1 ?body1 ?done1 (fun _ _ _ _ _ _ h _ => h.elim)
  case assign1 =>
    rintro l' pre x V K hLp hK
    simp only [enc]
    have kV := Kp.alloc V (.cells #[.int .u64 x.lo, .int .u64 x.hi, .int .u8 x.h] 26) Nu
    have HZ := hide (And.intro (hLp.nu kV hLp.be.size) kV)
    clear hLp kV
    gi_wp2
    obtain ⟨f1, kV⟩ := HZ.out
    exact hK _ _ (kf_nu _ kV) (kc_nu kV) f1 trivial
  case body1 =>
    rintro l' pre x a' V hl' hq hI hA hlt
    exact absurd hlt (Nat.not_lt_zero _)
  case done1 =>
    rintro D ys V hD rfl hMp hK
    obtain ⟨hM, hBo, hBe⟩ := hMp
    have c3 := cell1 hBo
    obtain ⟨Dm, hDm⟩ : ∃ Dm : DataW Unit, .map [] = Dm := ⟨_, rfl⟩
    rw [hDm] at hM
    have hsz : size Dm = 0 := by rw [← hDm]; rfl
    have hno : ∀ k, has Dm k = false := fun k => by rw [← hDm]; rfl
    obtain ⟨i0, hi0, hz0, hz1, hz2⟩ := info_parts info105
    obtain ⟨Wm, hmk, hmo, hmg⟩ := run_makeSlice_owned V w.heap.size 55 105 i0 (.agg #[.int .u8 0, .int .i64 0, .int .u64 0]) 3 Tryd.underlying55 hi0 hz0 hz1 .i64 .i64 (size Dm) (by omega) (by rw [hz2]; omega) (by unfold maxLen; omega) hBe.size
    have kWm : Kp Nu V Wm := (Kp.of_grown hmg).mono (fun i _ e => by cases e)
    have hMm := map_nu hM kWm
    have c3m := cell1 ((kWm.block _ (blk_lt hBo) (fun h => h)).trans hBo)
    have hBm := hBe.trans (kWm.below _ hBe.size (fun _ h => h.elim))
    have hKm := (kWm.block _ (blk_lt hK) (fun h => h)).trans hK
    have HL := hide (And.intro hBm hKm)
    have HNO := hide (And.intro hno hsz)
    have hVm : Wm.heap.size ≥ V.heap.size := kWm.size
    have hVD : D < V.heap.size := blk_lt hK
    clear hBo hmg hBm hKm SQ D4 hmo hno hDm hsz
    gi_wp2_with (first
      | (gi_at_len; refine wpListIn_len_own _ rfl _ 103 rfl 24 105 u103 shElem bm _ Dm rfl hM ?_)
      | (gi_at_range; refine wpListIn_range_own _ rfl _ 103 rfl 24 105 hostKeyed u103 _ bm _ _ rfl hMm ?_; intro w0 hrg0 hg0 hs0)
      | gi_in)
    go_frame
    gi_loopw [5] (fun sl wr => ∃ (left : Lit → Bool) (cnt : Nat) (adl : Option Addr) (cpl : Nat), sl = .slice adl 0 cpl ∧ wr.ranges Tryd.prog 24 shElem bm Wm.heap.size 0 Dm left cnt ∧ Hid (Below w.heap.size w wr ∧ wr.heap[D]? = some (.deferred (some [])))) (fun _ wr => 0)
    case atStart =>
      obtain ⟨hBm, hKm⟩ := HL.out
      have k0 : Kp Nu Wm w0 := (Kp.of_grown hg0).mono (fun i _ e => by cases e)
      exact ⟨_, _, _, _, rfl, hrg0, ⟨hBm.trans (k0.below _ hBm.size (fun _ h => h.elim)), (k0.block _ (blk_lt hKm) (fun h => h)).trans hKm⟩⟩
    case round =>
      obtain ⟨left, cnt, adl, cpl, rfl, hrg, hI⟩ := hrel
      gi_wp2_with (first
        | (gi_at_next; refine wpListIn_next_ranges _ rfl _ rfl 24 hostKeyed shElem (α := Int) (β := Sh) (fun h => .int .u8 h) encS (fun key kl hk => by obtain ⟨x, e, _⟩ := keyOf_int_inv Tryd.underlying24 hk; exact ⟨x, e⟩) (fun v y hv => by obtain ⟨s, e, _⟩ := shElem_inv hv; exact ⟨s, e⟩) bm Wm.heap.size 0 _ _ _ rfl hrg ?_ ?_)
        | gi_in)
      · intro hc0 hl0
        have SO := sort_nil wr adl cpl (.func (.func 58) #[] #[])
        have HZ := hide hI.out
        clear hI hrg
        gi_wp2_with fail
        refine ⟨trivial, (callsIn_wide.2 SO).mono ?_⟩
        rintro e w5 ⟨rfl, hw5⟩
        obtain rfl := hw5.symm
        clear SO hw5
        gi_wp2
        obtain ⟨hbe, hkd⟩ := HZ.out
        refine ⟨by simp, .inl ⟨_, _, rfl, run_takeDeferred hkd, ?_⟩⟩
        refine ⟨.slice adl 0 cpl, ?_, adl, cpl, rfl, ?_⟩
        · simp [results, Tryd.results26, go_sem]
        · exact Kp.of_below (hbe.trans (belowK_b (w := w) (Nat.le_refl _) _ D _ _ (by omega) hkd rfl rfl))
      · intro p sh kl yd yp w2 cnt2 hkey hlk hv hat hrg2 hlt hg2 hs2 hen
        exfalso
        have h1 := HNO.out.1 kl
        rw [has_true_of_atKey hat] at h1
        cases h1
end Go.Proofs.YtffcnonhhfhlhaaDoor.Rg
