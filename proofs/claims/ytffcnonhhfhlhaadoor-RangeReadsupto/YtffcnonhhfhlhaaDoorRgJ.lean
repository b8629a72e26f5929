import Derived.Test.YtffcnonhhfhlhaaDoorRgH
namespace Go.Proofs.YtffcnonhhfhlhaaDoor.Rg
open Go.RowKit Go.Shelf Go.Sort
open Go.Proofs.YtffcnonhhfhlhaaDoor.It
attribute [local go_sem] Oper.semAt_some
set_option linter.unusedVariables false

theorem bel_nu {n : Nat} {a b c : World} (h : Below n a b) (k : Kp Nu b c) (hn : n ≤ b.heap.size) : Below n a c :=
  h.trans (k.toBelow.mono hn)

set_option maxRecDepth 100000 in
set_option maxHeartbeats 1000000 in
theorem segment_any {B b : Nat} {w : World} {lim : Int} {v : Value} {L : List Sg} (h : Tb B w b lim v L) (key : Int) (k0 : 0 ≤ key) (k1 : key < 18446744073709551616) :
    Calls Tryd.prog 19 #[.pointer (some ⟨b, 0, none⟩), .int .u64 key] w fun e w' => ∃ s, e = .returned (enc s) ∧ L[plc L key]? = some s ∧ Kp Nu w w' := by
  have KA := Kp.alloc w (.cells #[.int .u64 0, .int .u64 0, .int .u8 0] 26) Nu
  have FR := from_any (h.nu KA) key k0 k1
  obtain ⟨s, hs, _⟩ := plc_facts h.tab.cov k0 k1
  have hl : L.length ≤ 8192 := by have := h.len; have := h.lim1; omega
  refine (callsIn_wide (n := 4)).1 ?_
  refine callsIn_of_wp_marks Tryd.func19 rfl trivial ?_ rfl
  simp only [Tryd.ntmps19, List.size_toArray, List.length_cons, List.length_nil, Nat.reduceAdd, Nat.reduceSub, Array.replicate_succ, Array.replicate_zero, List.push_toArray, List.append_toArray, List.nil_append, List.cons_append]
  gi_wp2_with fail
  refine ⟨trivial, (callsIn_wide.2 FR).mono ?_⟩
  rintro e w2 ⟨Bn, r, cap, rfl, hBn, hbn, hr, hk2⟩
  have T2 := (h.nu KA).nu hk2
  obtain ⟨cur, hcur, hrow⟩ := T2.cur hr
  have hres : w2.heap[w.heap.size]? = some (.cells #[.int .u64 0, .int .u64 0, .int .u8 0] 26 (0, 0)) := new_at w _ hk2
  have hbel : Below w.heap.size w w2 := (KA.andNu hk2).toBelow
  have hrw : r ≠ w.heap.size := fun e => by
    have := own_lt h.own hr
    omega
  have hM : (L.drop (plc L key)).length ≤ 8192 := by simp; omega
  have hrow2 := hrow.drop (plc L key)
  rw [Nat.zero_add] at hrow2
  have hhead : (L.drop (plc L key)).head? = some s := by rw [List.head?_drop]; exact hs
  have hlt2 : w.heap.size < w2.heap.size := blk_lt hres
  have HE : Hid (L[plc L key]? = some s) := hs
  generalize hMM : L.drop (plc L key) = M at *
  clear FR T2 hrow h hs hMM KA hk2 hl
  gi_wp2_with fail
  refine wpIn_rangeFunc_ownH rfl (by omega) (gf := 73) (lb := #[.pointer (some ⟨Bn, 0, none⟩)]) rfl trivial (enters_of Tryd.func73 (by kernel_rfl) rfl)
    (from_stops _ Bn r _ cap M cur hM hrow2 w2 hbn hcur) (fun h k => h.trans k) (fun W l o o' _ h hc _ => Kc.put W l o o' h hc) (Below.refl _ _) (fun _ => rfl)
    (fun pre V => (pre = [] ∧ V.heap[w.heap.size]? = some (.cells #[.int .u64 0, .int .u64 0, .int .u8 0] 26 (0, 0))) ∧ Below w.heap.size w V)
    (fun c pre V => (c = .ret ∧ ∃ x, pre = [x] ∧ V.heap[w.heap.size]? = some (.cells #[.int .u64 x.lo, .int .u64 x.hi, .int .u8 x.h] 26 (0, 0))) ∧ Below w.heap.size w V)
    (OwnFrom.and (fun pre X Z row hs hg hr => ⟨hs.1, own_cells (β := Unit) w2.heap.size _ _ _ _ () X Z row hs.2 hg hr⟩) (ownFrom_below (Nat.le_refl _) (by omega)))
    (fun c => OwnFrom.and (fun pre X Z row hs hg hr => by
      obtain ⟨h1, x, h2, h3⟩ := hs
      exact ⟨h1, x, h2, own_cells (β := Unit) w2.heap.size _ _ _ _ () X Z row h3 hg hr⟩) (ownFrom_below (Nat.le_refl _) (by omega)))
    ⟨⟨rfl, hres⟩, hbel⟩
    (fun x a' V => ∃ Bx, w.heap.size < Bx ∧ V.heap[Bx]? = some (.cells #[.int .u64 x.lo, .int .u64 x.hi, .int .u8 x.h] 26 (0, 0)) ∧ a' = { tmps := #[.pointer (some ⟨b, 0, none⟩), .int .u64 key, undef, undef, .pointer (some ⟨w.heap.size, 0, none⟩), .pointer (some ⟨Bx, 0, none⟩), .pointer (some ⟨b, 0, none⟩), .int .u64 key, .func (.func 73) #[] #[.pointer (some ⟨Bn, 0, none⟩)], enc x, undef, undef], defers := [] })
    (fun x a' _ X Z row hs hg hr => by
      obtain ⟨Bx, h0, h1, h2⟩ := hs
      exact ⟨Bx, h0, own_cells (β := Unit) w2.heap.size Bx _ _ _ () X Z row h1 hg hr, h2⟩)
    ?assign ?body ?done ?stop
  case assign =>
    rintro l' pre x V K ⟨⟨hp, y1⟩, hB1⟩ hK
    simp only [enc]
    have kV := Kp.alloc V (.cells #[.int .u64 x.lo, .int .u64 x.hi, .int .u8 x.h] 26) Nu
    have f1 := (kV.block _ (blk_lt y1) (fun h => h)).trans y1
    have HF := hide (And.intro f1 (And.intro hp (And.intro kV (blk_lt y1))))
    clear f1 y1 hp kV
    gi_wp2
    obtain ⟨f1, hp, kV, hlt⟩ := HF.out
    exact hK _ _ (kf_nu _ kV) (kc_nu kV) ⟨⟨hp, f1⟩, hB1.alloc hB1.size _⟩ ⟨V.heap.size, hlt, heap_alloc_new V _, rfl⟩
  case body =>
    rintro l' pre x a' V hl hq ⟨⟨hp, y1⟩, hB1⟩ ⟨Bx, hx0, hX, rfl⟩ hlt
    obtain ⟨a0, a1, a2⟩ := cell3 hX
    have s0 := free3 y1 0
    have s1 := free3 y1 1
    have s2 := free3 y1 2
    obtain ⟨b0, b1, b2⟩ := cell3 y1
    gi_wp2
    refine ⟨(((KeepsOthers.setCell _ _ _).trans (KeepsOthers.setCell _ _ _)).trans (KeepsOthers.setCell _ _ _)).from _, ⟨rfl, x, by rw [hp]; rfl, ?_⟩, ?_⟩
    · rw [set3 (set3 (set3 y1 0 _) 1 _) 2 _]; rfl
    · exact ((hB1.setCell (p := ⟨w.heap.size, 0, none⟩) (Nat.le_refl _) _).setCell (p := ⟨w.heap.size, 1, none⟩) (Nat.le_refl _) _).setCell (p := ⟨w.heap.size, 2, none⟩) (Nat.le_refl _) _
  case done =>
    rintro D ys V hD rfl ⟨⟨hp, y1⟩, hB1⟩ hK
    subst hp
    simp at hhead
  case stop =>
    rintro D c pre V hD hpre ⟨⟨rfl, x, rfl, y1⟩, hB1⟩ hK
    have y2 : (V.putObj D (.deferred none)).heap[w.heap.size]? = some (.cells #[.int .u64 x.lo, .int .u64 x.hi, .int .u8 x.h] 26 (0, 0)) := (World.putObj_heap_other (by omega)).trans y1
    obtain ⟨a0, a1, a2⟩ := cell3 y2
    have hx : x = s := by
      obtain ⟨t, rfl⟩ := hpre
      simpa using hhead
    subst hx
    gi_wp2
    refine ⟨by simp, .inl ⟨_, _, rfl, run_takeDeferred hK, ?_⟩⟩
    refine ⟨enc x, ?_, x, rfl, HE.out, Kp.of_below (hB1.trans (belowK_b (w := w) (Nat.le_refl _) V D _ _ (by omega) hK rfl rfl))⟩
    simp [results, Tryd.results19, go_sem, a0, a1, a2, enc]
end Go.Proofs.YtffcnonhhfhlhaaDoor.Rg
namespace Go.Proofs.YtffcnonhhfhlhaaDoor.Rg
open Go.RowKit Go.Shelf Go.Sort
open Go.Proofs.YtffcnonhhfhlhaaDoor.It
attribute [local go_sem] Oper.semAt_some
set_option linter.unusedVariables false

theorem field40 (W : World) (a b c : Value) : (Instr.field 26 (.agg #[a, b, c]) 2).run Tryd.prog W = .ok c W := by kernel_rfl

set_option maxRecDepth 100000 in
set_option maxHeartbeats 1000000 in
theorem lookup_any {B b : Nat} {w : World} {lim : Int} {v : Value} {L : List Sg} (h : Tb B w b lim v L) (key : Int) (k0 : 0 ≤ key) (k1 : key < 18446744073709551616) :
    Calls Tryd.prog 20 #[.pointer (some ⟨b, 0, none⟩), .int .u64 key] w fun e w' => e = .returned (.int .u8 (ow L key)) ∧ Kp Nu w w' := by
  have SG := segment_any h key k0 k1
  obtain ⟨s, hs, _, _, he, _⟩ := plc_facts h.tab.cov k0 k1
  have SG2 : Calls Tryd.prog 19 #[.pointer (some ⟨b, 0, none⟩), .int .u64 key] w fun e w' => e = .returned (.agg #[.int .u64 s.lo, .int .u64 s.hi, .int .u8 s.h]) ∧ Kp Nu w w' := SG.mono (by
    rintro e w' ⟨t, rfl, ht, hk⟩
    rw [hs] at ht; cases ht
    exact ⟨rfl, hk⟩)
  rw [← he]
  have fd := field40
  clear SG h hs he
  go_enter Tryd.func20, Tryd.ntmps20
  go_wp2_with (go_at_call 19; refine SG2.mono ?_; rintro e w' ⟨rfl, hk⟩)
  go_ret
  exact ⟨rfl, hk⟩

/-- is all of a range a host's? -/
def ownsB (L : List Sg) (lo hi o : Int) : Bool := (tk lo hi (L.drop (plc L lo))).all (fun s => s.h == o)

set_option maxRecDepth 100000 in
set_option maxHeartbeats 1000000 in
theorem owns_any {B b : Nat} {w : World} {lim : Int} {v : Value} {L : List Sg} (h : Tb B w b lim v L) (lo hi o : Int) (k0 : 0 ≤ lo) (hlh : lo ≤ hi) (k1 : hi < 18446744073709551616) :
    Calls Tryd.prog 21 #[.pointer (some ⟨b, 0, none⟩), .int .u64 lo, .int .u64 hi, .int .u8 o] w fun e w' => e = .returned (.bool (ownsB L lo hi o)) ∧ Kp Nu w w' := by
  have KA := (Kp.alloc w (.cells #[.int .u8 o] 24) Nu).andAlloc (.cells #[.bool false] 4)
  have z0 : ((w.alloc (.cells #[.int .u8 o] 24)).alloc (.cells #[.bool false] 4)).heap[w.heap.size]? = some (.cells #[.int .u8 o] 24 (0, 0)) := (Below.heap_alloc _ _ _ (by simp)).trans (heap_alloc_new w _)
  have z1 : ((w.alloc (.cells #[.int .u8 o] 24)).alloc (.cells #[.bool false] 4)).heap[w.heap.size + 1]? = some (.cells #[.bool false] 4 (0, 0)) := by
    have := heap_alloc_new (w.alloc (.cells #[.int .u8 o] 24)) (.cells #[.bool false] 4)
    rwa [World.size_alloc] at this
  have MA := made_any (h.nu KA)
  have WI := within_any (h.nu KA) lo hi k0 (by omega)
  have hl : L.length ≤ 8192 := by have := h.len; have := h.lim1; omega
  have hgt : ¬ lo > hi := by omega
  have hgd : decide (hi < lo) = false := decide_eq_false (by omega)
  refine (callsIn_wide (n := 4)).1 ?_
  refine callsIn_of_wp_marks Tryd.func21 rfl trivial ?_ rfl
  simp only [Tryd.ntmps21, List.size_toArray, List.length_cons, List.length_nil, Nat.reduceAdd, Nat.reduceSub, Array.replicate_succ, Array.replicate_zero, List.push_toArray, List.append_toArray, List.nil_append, List.cons_append]
  gi_wp2_with fail
  refine ⟨trivial, (callsIn_wide.2 MA).mono ?_⟩
  rintro e w' ⟨rfl, rfl⟩
  gi_wp2_with fail
  refine ⟨trivial, (callsIn_wide.2 WI).mono ?_⟩
  rintro e w2 ⟨Br, Bn, r, cap, rfl, x0, x1, x2, x3, hr, hk2⟩
  have T2 := (h.nu KA).nu hk2
  obtain ⟨cur, hcur, hrow⟩ := T2.cur hr
  replace z0 := (hk2.block _ (blk_lt z0) (fun h => h)).trans z0
  replace z1 := (hk2.block _ (blk_lt z1) (fun h => h)).trans z1
  have hbel : Below w.heap.size w w2 := (KA.andNu hk2).toBelow
  have hM : (L.drop (plc L lo)).length ≤ 8192 := by simp; omega
  have hrow2 := hrow.drop (plc L lo)
  rw [Nat.zero_add] at hrow2
  simp only [World.size_alloc] at x0 x1 ⊢
  have hlt2 : w.heap.size + 1 < w2.heap.size := blk_lt z1
  have SQ := within1_o w2 _ _ Br Bn r _ cap lo hi hlh _ cur hM hrow2 x0 x1 x2 x3 hcur
  have HOB : Hid (ownsB L lo hi o = (tk lo hi (L.drop (plc L lo))).all (fun s => s.h == o)) := rfl
  generalize hMM : L.drop (plc L lo) = M at *
  clear MA WI T2 hrow h hMM KA hk2 hl x0 x1 x2 x3 hcur hrow2
  gi_wp2_with fail
  refine range_o (gf := 45) rfl (enters_of Tryd.func45 (by kernel_rfl) rfl) SQ (Below.refl _ _) (fun _ => rfl)
    (fun pre V => (pre.all (fun s => s.h == o) = true ∧ V.heap[w.heap.size]? = some (.cells #[.int .u8 o] 24 (0, 0)) ∧ V.heap[w.heap.size + 1]? = some (.cells #[.bool false] 4 (0, 0))) ∧ Below w.heap.size w V)
    (fun c pre V => (c = .ret ∧ pre.all (fun s => s.h == o) = false ∧ V.heap[w.heap.size + 1]? = some (.cells #[.bool false] 4 (0, 0))) ∧ Below w.heap.size w V)
    (OwnFrom.and (fun pre X Z row hs hg hr => ⟨hs.1, own_cells (β := Unit) w2.heap.size _ _ _ _ () X Z row hs.2.1 hg hr, own_cells (β := Unit) w2.heap.size _ _ _ _ () X Z row hs.2.2 hg hr⟩) (ownFrom_below (Nat.le_refl _) (by omega)))
    (fun c => OwnFrom.and (fun pre X Z row hs hg hr => ⟨hs.1, hs.2.1, own_cells (β := Unit) w2.heap.size _ _ _ _ () X Z row hs.2.2 hg hr⟩) (ownFrom_below (Nat.le_refl _) (by omega)))
    ⟨⟨rfl, z0, z1⟩, hbel⟩
    (fun x a' V => ∃ Bx, V.heap[Bx]? = some (.cells #[.int .u64 x.lo, .int .u64 x.hi, .int .u8 x.h] 26 (0, 0)) ∧ a' = { tmps := #[.pointer (some ⟨b, 0, none⟩), .int .u64 lo, .int .u64 hi, .int .u8 o, undef, undef, undef, .pointer (some ⟨w.heap.size, 0, none⟩), .pointer (some ⟨w.heap.size + 1, 0, none⟩), .pointer (some ⟨Bx, 0, none⟩), .pointer (some ⟨b, 0, none⟩), .bool true, .bool false, .bool false, .int .u64 lo, .int .u64 hi, .bool false, .bool false, .pointer (some ⟨b, 0, none⟩), .int .u64 lo, .int .u64 hi, .func (.func 45) #[] #[.pointer (some ⟨w.heap.size + 1 + 1, 0, none⟩), .pointer (some ⟨w.heap.size + 1 + 1 + 1, 0, none⟩), .pointer (some ⟨Br, 0, none⟩)], enc x, undef, undef, undef, undef], defers := [] })
    (fun x a' _ X Z row hs hg hr => by
      obtain ⟨Bx, h1, h2⟩ := hs
      exact ⟨Bx, own_cells (β := Unit) w2.heap.size Bx _ _ _ () X Z row h1 hg hr, h2⟩)
    ?assign ?body ?done ?stop
  case assign =>
    rintro l' pre x V K ⟨⟨hp, y0, y1⟩, hB1⟩ hK
    simp only [enc]
    have kV := Kp.alloc V (.cells #[.int .u64 x.lo, .int .u64 x.hi, .int .u8 x.h] 26) Nu
    have f0 := (kV.block _ (blk_lt y0) (fun h => h)).trans y0
    have f1 := (kV.block _ (blk_lt y1) (fun h => h)).trans y1
    have HF := hide (And.intro f0 (And.intro f1 (And.intro hp kV)))
    clear f0 f1 y0 y1 hp kV
    gi_wp2
    obtain ⟨f0, f1, hp, kV⟩ := HF.out
    exact hK _ _ (kf_nu _ kV) (kc_nu kV) ⟨⟨hp, f0, f1⟩, hB1.alloc hB1.size _⟩ ⟨V.heap.size, heap_alloc_new V _, rfl⟩
  case body =>
    rintro l' pre x a' V hl hq ⟨⟨hp, y0, y1⟩, hB1⟩ ⟨Bx, hX, rfl⟩ hlt
    obtain ⟨a0, a1, a2⟩ := cell3 hX
    have b0 := cell1 y0
    have b1 := cell1 y1
    have s1 := free3 y1 0
    have HP := hide hp
    have HY := hide (And.intro y0 y1)
    clear hp y0 y1 hX
    by_cases hx : x.h = o
    · have hxo : (x.h != o) = false := by simp [hx]
      gi_wp2
      obtain ⟨y0, y1⟩ := HY.out
      refine ⟨KeepsFrom.refl _ _, Kc.refl _ _, ⟨?_, y0, y1⟩, hB1⟩
      rw [List.all_append, HP.out]; simp [hx]
    · have hxo : (x.h != o) = true := by simp [hx]
      gi_wp2
      obtain ⟨y0, y1⟩ := HY.out
      refine ⟨(KeepsOthers.setCell _ _ _).from _, ⟨rfl, ?_, ?_⟩, hB1.setCell (p := ⟨w.heap.size + 1, 0, none⟩) (by simp) _⟩
      · rw [List.all_append, HP.out]; simp [hx]
      · rw [set3 y1 0 _]; rfl
  case done =>
    rintro D ys V hD rfl ⟨⟨hp, y0, y1⟩, hB1⟩ hK
    have b1 := cell1 y1
    have s1 := free3 y1 0
    have HY := hide y1
    have HP := hide hp
    clear y0 y1 hp
    gi_wp2
    have hK2 := (KeepsOthers.setCell V ⟨w.heap.size + 1, 0, none⟩ (.bool true)).same D _ hK rfl
    refine ⟨by simp, .inl ⟨_, _, rfl, run_takeDeferred hK2, ?_⟩⟩
    have y2 : ((V.setCell ⟨w.heap.size + 1, 0, none⟩ (.bool true)).putObj D (.deferred none)).heap[w.heap.size + 1]? = some (.cells #[.bool true] 4 (0, 0)) := (World.putObj_heap_other (by omega)).trans (by rw [set3 HY.out 0 _]; rfl)
    have a0 := cell1 y2
    have e : ownsB L lo hi o = true := by rw [HOB.out]; exact HP.out
    refine ⟨.bool (ownsB L lo hi o), ?_, rfl, Kp.of_below ((hB1.setCell (p := ⟨w.heap.size + 1, 0, none⟩) (by simp) _).trans (belowK_b (w := w) (Nat.le_refl _) _ D _ _ (by omega) hK2 rfl rfl))⟩
    rw [e]
    simp [results, Tryd.results21, go_sem, a0]
  case stop =>
    rintro D c pre V hD hpre ⟨⟨rfl, hp, y1⟩, hB1⟩ hK
    have y2 : (V.putObj D (.deferred none)).heap[w.heap.size + 1]? = some (.cells #[.bool false] 4 (0, 0)) := (World.putObj_heap_other (by omega)).trans y1
    have a0 := cell1 y2
    have e : ownsB L lo hi o = false := by
      rw [HOB.out]
      obtain ⟨t, ht⟩ := hpre
      rw [← ht, List.all_append, hp]; rfl
    clear hp y1
    gi_wp2
    refine ⟨by simp, .inl ⟨_, _, rfl, run_takeDeferred hK, ?_⟩⟩
    refine ⟨.bool (ownsB L lo hi o), ?_, rfl, Kp.of_below (hB1.trans (belowK_b (w := w) (Nat.le_refl _) V D _ _ (by omega) hK rfl rfl))⟩
    rw [e]
    simp [results, Tryd.results21, go_sem, a0]
end Go.Proofs.YtffcnonhhfhlhaaDoor.Rg
