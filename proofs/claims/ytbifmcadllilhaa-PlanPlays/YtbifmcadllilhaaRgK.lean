import Derived.Test.YtbifmcadllilhaaRgE
import Derived.Laws.EntriesVeiled
import Derived.Test.YtbifmcadllilhaaOrdB
namespace Go.Proofs.Ytbifmcadllilhaa.Rg
open Go.RowKit Go.Shelf Go.Sort
open Go.Proofs.Ytbifmcadllilhaa.It
attribute [local go_sem] Oper.semAt_some
set_option linter.unusedVariables false

theorem set_set3 {w : World} {b : Nat} {x y z x' y' : Value} {t : TypeId} (h : w.heap[b]? = some (.cells #[x, y, z] t (0, 0))) : ((w.setCell ⟨b, 0, none⟩ x').setCell ⟨b, 1, none⟩ y').heap[b]? = some (.cells #[x', y', z] t (0, 0)) := by
  rw [set3 (set3 h 0 x') 1 y']; rfl

end Go.Proofs.Ytbifmcadllilhaa.Rg
namespace Go.Proofs.Ytbifmcadllilhaa.Rg
open Go.RowKit Go.Shelf Go.Sort
open Go.Proofs.Ytbifmcadllilhaa.It
set_option linter.unusedVariables false

theorem tk_append : ∀ {a : List Sg} (r : List Sg) {lo hi : Int}, (∀ s ∈ a, s.lo ≤ hi) → tk lo hi (a ++ r) = a.map (cutS lo hi) ++ tk lo hi r
  | [], r, lo, hi, h => rfl
  | s :: a, r, lo, hi, h => by
    simp only [List.cons_append, tk, List.map_cons]
    rw [if_neg (by have := h s (by simp); omega), tk_append r (fun t ht => h t (List.mem_cons_of_mem _ ht))]
theorem tk_map {a : List Sg} {lo hi : Int} (h : ∀ s ∈ a, s.lo ≤ hi) : tk lo hi a = a.map (cutS lo hi) := by
  have := tk_append (lo := lo) [] h
  simpa [tk] using this
theorem tk_halt {a : List Sg} {s : Sg} (r : List Sg) {lo hi : Int} (h : ∀ t ∈ a, t.lo ≤ hi) (hs : hi < s.lo) : tk lo hi (a ++ [s] ++ r) = a.map (cutS lo hi) := by
  rw [List.append_assoc, tk_append _ h]
  simp only [List.singleton_append, tk]
  rw [if_pos hs]; simp
theorem tk_pre {a M : List Sg} {lo hi : Int} (h : ∀ s ∈ a, s.lo ≤ hi) (hp : a <+: M) : a.map (cutS lo hi) <+: tk lo hi M := by
  obtain ⟨r, rfl⟩ := hp
  rw [tk_append r h]
  exact ⟨_, rfl⟩

/-- the blocks that a round over Within keeps -/
def KW (Bl Bh r : Nat) (k : Nat) (t : TypeId) : Prop := k = Bl ∨ k = Bh ∨ k = r ∨ t = 170
theorem kc_nu {K : Nat → TypeId → Prop} {w w' : World} (h : Kp Nu w w') : Kc K w w' := fun k c t m _ e => (h.block k (blk_lt e) (fun h => h)).trans e
theorem grown_nu {w w' : World} (h : Kp Nu w w') : w.grownBy w' none := ⟨h.os, h.tape, h.output, h.size, fun k hk _ => h.block k hk (fun h => h)⟩
theorem kf_nu {w w' : World} (B : Nat) (h : Kp Nu w w') : KeepsFrom B w w' := ⟨h.size, fun k o _ hk _ => (h.block k (blk_lt hk) (fun h => h)).trans hk⟩
theorem kf_mono {w w' : World} {B B' : Nat} (h : KeepsFrom B w w') (hB : B ≤ B') : KeepsFrom B' w w' := ⟨h.size, fun k o hk h1 h2 => h.same k o (by omega) h1 h2⟩
theorem own_cells {β : Type} (B k : Nat) (c : Array Value) (t : TypeId) (m : Nat × Nat) : OwnFrom B (fun (_ : β) W => W.heap[k]? = some (.cells c t m)) := fun _ A C row hs hg hr =>
  (hg.block k (blk_lt hs) (fun e => by obtain ⟨_, o, ho, hc⟩ := hr k e.symm; rw [hs] at ho; cases ho; cases hc)).trans hs
end Go.Proofs.Ytbifmcadllilhaa.Rg
namespace Go.Proofs.Ytbifmcadllilhaa.Rg
open Go.RowKit Go.Shelf Go.Sort
open Go.Proofs.Ytbifmcadllilhaa.It
attribute [local go_sem] Oper.semAt_some
set_option linter.unusedVariables false

theorem bel_nu {n : Nat} {a b c : World} (h : Below n a b) (k : Kp Nu b c) (hn : n ≤ b.heap.size) : Below n a c :=
  h.trans (k.toBelow.mono hn)

set_option maxRecDepth 100000 in
set_option maxHeartbeats 1000000 in
theorem segment_any {B b : Nat} {w : World} {lim : Int} {v : Value} {L : List Sg} (h : Tb B w b lim v L) (key : Int) (k0 : 0 ≤ key) (k1 : key < 18446744073709551616) :
    Calls Try.prog 87 #[.pointer (some ⟨b, 0, none⟩), .int .u64 key] w fun e w' => ∃ s, e = .returned (enc s) ∧ L[plc L key]? = some s ∧ Kp Nu w w' := by
  have KA := Kp.alloc w (.cells #[.int .u64 0, .int .u64 0, .int .u8 0] 82) Nu
  have FR := from_any (h.nu KA) key k0 k1
  obtain ⟨s, hs, _⟩ := plc_facts h.tab.cov k0 k1
  have hl : L.length ≤ 8192 := by have := h.len; have := h.lim1; omega
  refine (callsIn_wide (n := 4)).1 ?_
  refine callsIn_of_wp_marks Try.func87 rfl trivial ?_ rfl
  simp only [Try.ntmps87, List.size_toArray, List.length_cons, List.length_nil, Nat.reduceAdd, Nat.reduceSub, Array.replicate_succ, Array.replicate_zero, List.push_toArray, List.append_toArray, List.nil_append, List.cons_append]
  gi_wp2_with fail
  refine ⟨trivial, (callsIn_wide.2 FR).mono ?_⟩
  rintro e w2 ⟨Bn, r, cap, rfl, hBn, hbn, hr, hk2⟩
  have T2 := (h.nu KA).nu hk2
  obtain ⟨cur, hcur, hrow⟩ := T2.cur hr
  have hres : w2.heap[w.heap.size]? = some (.cells #[.int .u64 0, .int .u64 0, .int .u8 0] 82 (0, 0)) := new_at w _ hk2
  have hbel : Below w.heap.size w w2 := (KA.andNu hk2).toBelow
  have hrw : r ≠ w.heap.size := fun e => by
    have := own_lt h.own hr
    omega
  have hM : (L.drop (plc L key)).length ≤ 8192 := by simp; omega
  have hrow2 := hrow.drop (plc L key)
  rw [Nat.zero_add] at hrow2
  have hhead : (L.drop (plc L key)).head? = some s := by rw [List.head?_drop]; exact hs
  have hlt2 : w.heap.size < w2.heap.size := blk_lt hres
  have HE : Hid (L[plc L key]? = some s) := hs
  generalize hMM : L.drop (plc L key) = M at *
  clear FR T2 hrow h hs hMM KA hk2 hl
  gi_wp2_with fail
  refine wpIn_rangeFunc_ownH rfl (by omega) (gf := 109) (lb := #[.pointer (some ⟨Bn, 0, none⟩)]) rfl trivial (enters_of Try.func109 (by kernel_rfl) rfl)
    (from_stops _ Bn r _ cap M cur hM hrow2 w2 hbn hcur) (fun h k => h.trans k) (fun W l o o' _ h hc _ => Kc.put W l o o' h hc) (Below.refl _ _) (fun _ => rfl)
    (fun pre V => (pre = [] ∧ V.heap[w.heap.size]? = some (.cells #[.int .u64 0, .int .u64 0, .int .u8 0] 82 (0, 0))) ∧ Below w.heap.size w V)
    (fun c pre V => (c = .ret ∧ ∃ x, pre = [x] ∧ V.heap[w.heap.size]? = some (.cells #[.int .u64 x.lo, .int .u64 x.hi, .int .u8 x.h] 82 (0, 0))) ∧ Below w.heap.size w V)
    (OwnFrom.and (fun pre X Z row hs hg hr => ⟨hs.1, own_cells (β := Unit) w2.heap.size _ _ _ _ () X Z row hs.2 hg hr⟩) (ownFrom_below (Nat.le_refl _) (by omega)))
    (fun c => OwnFrom.and (fun pre X Z row hs hg hr => by
      obtain ⟨h1, x, h2, h3⟩ := hs
      exact ⟨h1, x, h2, own_cells (β := Unit) w2.heap.size _ _ _ _ () X Z row h3 hg hr⟩) (ownFrom_below (Nat.le_refl _) (by omega)))
    ⟨⟨rfl, hres⟩, hbel⟩
    (fun x a' V => ∃ Bx, w.heap.size < Bx ∧ V.heap[Bx]? = some (.cells #[.int .u64 x.lo, .int .u64 x.hi, .int .u8 x.h] 82 (0, 0)) ∧ a' = { tmps := #[.pointer (some ⟨b, 0, none⟩), .int .u64 key, undef, undef, .pointer (some ⟨w.heap.size, 0, none⟩), .pointer (some ⟨Bx, 0, none⟩), .pointer (some ⟨b, 0, none⟩), .int .u64 key, .func (.func 109) #[] #[.pointer (some ⟨Bn, 0, none⟩)], enc x, undef, undef], defers := [] })
    (fun x a' _ X Z row hs hg hr => by
      obtain ⟨Bx, h0, h1, h2⟩ := hs
      exact ⟨Bx, h0, own_cells (β := Unit) w2.heap.size Bx _ _ _ () X Z row h1 hg hr, h2⟩)
    ?assign ?body ?done ?stop
  case assign =>
    rintro l' pre x V K ⟨⟨hp, y1⟩, hB1⟩ hK
    simp only [enc]
    have kV := Kp.alloc V (.cells #[.int .u64 x.lo, .int .u64 x.hi, .int .u8 x.h] 82) Nu
    have f1 := (kV.block _ (blk_lt y1) (fun h => h)).trans y1
    have HF := hide (And.intro f1 (And.intro hp (And.intro kV (blk_lt y1))))
    clear f1 y1 hp kV
    gi_wp2
    obtain ⟨f1, hp, kV, hlt⟩ := HF.out
    exact hK _ _ (kf_nu _ kV) (kc_nu kV) ⟨⟨hp, f1⟩, hB1.alloc hB1.size _⟩ ⟨V.heap.size, hlt, heap_alloc_new V _, rfl⟩
  case body =>
    rintro l' pre x a' V hl hq ⟨⟨hp, y1⟩, hB1⟩ ⟨Bx, hx0, hX, rfl⟩ hlt
    obtain ⟨a0, a1, a2⟩ := cell3 hX
    have s0 := free3 y1 0
    have s1 := free3 y1 1
    have s2 := free3 y1 2
    obtain ⟨b0, b1, b2⟩ := cell3 y1
    gi_wp2
    refine ⟨(((KeepsOthers.setCell _ _ _).trans (KeepsOthers.setCell _ _ _)).trans (KeepsOthers.setCell _ _ _)).from _, ⟨rfl, x, by rw [hp]; rfl, ?_⟩, ?_⟩
    · rw [set3 (set3 (set3 y1 0 _) 1 _) 2 _]; rfl
    · exact ((hB1.setCell (p := ⟨w.heap.size, 0, none⟩) (Nat.le_refl _) _).setCell (p := ⟨w.heap.size, 1, none⟩) (Nat.le_refl _) _).setCell (p := ⟨w.heap.size, 2, none⟩) (Nat.le_refl _) _
  case done =>
    rintro D ys V hD rfl ⟨⟨hp, y1⟩, hB1⟩ hK
    subst hp
    simp at hhead
  case stop =>
    rintro D c pre V hD hpre ⟨⟨rfl, x, rfl, y1⟩, hB1⟩ hK
    have y2 : (V.putObj D (.deferred none)).heap[w.heap.size]? = some (.cells #[.int .u64 x.lo, .int .u64 x.hi, .int .u8 x.h] 82 (0, 0)) := (World.putObj_heap_other (by omega)).trans y1
    obtain ⟨a0, a1, a2⟩ := cell3 y2
    have hx : x = s := by
      obtain ⟨t, rfl⟩ := hpre
      simpa using hhead
    subst hx
    gi_wp2
    refine ⟨by simp, .inl ⟨_, _, rfl, run_takeDeferred hK, ?_⟩⟩
    refine ⟨enc x, ?_, x, rfl, HE.out, Kp.of_below (hB1.trans (belowK_b (w := w) (Nat.le_refl _) V D _ _ (by omega) hK rfl rfl))⟩
    simp [results, Try.results87, go_sem, a0, a1, a2, enc]
end Go.Proofs.Ytbifmcadllilhaa.Rg
namespace Go.Proofs.Ytbifmcadllilhaa.Rg
open Go.RowKit Go.Shelf Go.Sort
open Go.Proofs.Ytbifmcadllilhaa.It
attribute [local go_sem] Oper.semAt_some
set_option linter.unusedVariables false

theorem field40 (W : World) (a b c : Value) : (Instr.field 82 (.agg #[a, b, c]) 2).run Try.prog W = .ok c W := by kernel_rfl

set_option maxRecDepth 100000 in
set_option maxHeartbeats 1000000 in
theorem lookup_any {B b : Nat} {w : World} {lim : Int} {v : Value} {L : List Sg} (h : Tb B w b lim v L) (key : Int) (k0 : 0 ≤ key) (k1 : key < 18446744073709551616) :
    Calls Try.prog 60 #[.pointer (some ⟨b, 0, none⟩), .int .u64 key] w fun e w' => e = .returned (.int .u8 (ow L key)) ∧ Kp Nu w w' := by
  have SG := segment_any h key k0 k1
  obtain ⟨s, hs, _, _, he, _⟩ := plc_facts h.tab.cov k0 k1
  have SG2 : Calls Try.prog 87 #[.pointer (some ⟨b, 0, none⟩), .int .u64 key] w fun e w' => e = .returned (.agg #[.int .u64 s.lo, .int .u64 s.hi, .int .u8 s.h]) ∧ Kp Nu w w' := SG.mono (by
    rintro e w' ⟨t, rfl, ht, hk⟩
    rw [hs] at ht; cases ht
    exact ⟨rfl, hk⟩)
  rw [← he]
  have fd := field40
  clear SG h hs he
  go_enter Try.func60, Try.ntmps60
  go_wp2_with (go_at_call 87; refine SG2.mono ?_; rintro e w' ⟨rfl, hk⟩)
  go_ret
  exact ⟨rfl, hk⟩

/-- is all of a range a host's? -/
def ownsB (L : List Sg) (lo hi o : Int) : Bool := (tk lo hi (L.drop (plc L lo))).all (fun s => s.h == o)

end Go.Proofs.Ytbifmcadllilhaa.Rg
namespace Go.Proofs.Ytbifmcadllilhaa.Rg
open Go.RowKit Go.Shelf Go.Sort
open Go.Proofs.Ytbifmcadllilhaa.It
set_option linter.unusedVariables false

theorem wu_add {x : Int} (h0 : 0 ≤ x) (h : x < 18446744073709551615) : IntKind.u64.wrap (x + 1) = x + 1 := by rw [IntKind.wrap_u64]; omega
theorem wu_sub {x : Int} (h0 : 0 < x) (h : x < 18446744073709551616) : IntKind.u64.wrap (x - 1) = x - 1 := by rw [IntKind.wrap_u64]; omega

def aft1 (L : List Sg) (lo o : Int) : Bool := decide (0 < lo ∧ ow L (lo - 1) ≠ o)
def aft2 (L : List Sg) (hi o : Int) : Bool := decide (hi < 18446744073709551615 ∧ ow L (hi + 1) ≠ o)

end Go.Proofs.Ytbifmcadllilhaa.Rg
