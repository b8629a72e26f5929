import Derived.Test.YtbhdhoeaogbfbaaEnC
namespace Go.Proofs.Ytbhdhoeaogbfbaa.Xo
open Go.RowKit
set_option linter.unusedVariables false
section
variable {B eb pb : Nat} {w w' : World} {me qn wn : Int} {ps : List Pr}
set_option maxHeartbeats 1000000 in
theorem loadIn (h : Row w pb 123 ps) (k : Nat) (p : Pr) (hk : ps[k]? = some p) (a wn : Int) : Calls Try.prog 64 #[.pointer (some ⟨pb, k * 6 + 4, none⟩), .agg #[.int .u64 a, .int .u64 a, .slice none 0 0, .int .u64 0, .int .u64 0, .slice none 0 0], .int .i64 wn] w fun e w' => e = .returned (.bool true) ∧ ∃ g, Row w' pb 123 (ps.set k ⟨p.sent, p.acked, p.q, p.qs, p.mask, 0, .slice (some ⟨g, 0, none⟩) 0 0⟩) ∧ Kp (fun i => i = pb) w w' := by
  have FP := frames_new none 0
  have hne : w.heap.size ≠ pb := by have := blk_lt h; omega
  have hb : Row (w.alloc (.cells #[.int .u64 a, .int .u64 a, .slice none 0 0, .int .u64 0, .int .u64 0, .slice none 0 0] 66)) pb 123 ps := h.keep (Below.heap_alloc _ _ _ (blk_lt h))
  have z4 := (hb.at hk).2.2.2.2.1
  have f4 := hb.free (k * 6 + 4)
  have hr := hb.set hk 4 (by omega) (.int .u64 0) ⟨p.sent, p.acked, p.q, p.qs, p.mask, 0, p.e⟩ rfl
  have x5 : ((w.alloc (.cells #[.int .u64 a, .int .u64 a, .slice none 0 0, .int .u64 0, .int .u64 0, .slice none 0 0] 66)).setCell ⟨pb, k * 6 + 4, none⟩ (.int .u64 0)).cell? ⟨w.heap.size, 5, none⟩ = some (.slice none 0 0) := by
    rw [World.cell?_of_block (Below.heap_setCell (w.alloc (.cells #[.int .u64 a, .int .u64 a, .slice none 0 0, .int .u64 0, .int .u64 0, .slice none 0 0] 66)) ⟨pb, k * 6 + 4, none⟩ _ _ hne)]
    exact (cell6 (heap_alloc_new w _)).2.2.2.2.2
  have CR := fun W (kw : Kp Nu ((w.alloc (.cells #[.int .u64 a, .int .u64 a, .slice none 0 0, .int .u64 0, .int .u64 0, .slice none 0 0] 66)).setCell ⟨pb, k * 6 + 4, none⟩ (.int .u64 0)) W) => hr.keep (kw.block _ (blk_lt hr) (fun h => h))
  have CP2 := fun W kw => ((CR W kw).at (set_self hk _)).2.2.2.2.2
  have CF := fun W kw => (CR W kw).free (k * 6 + 5)
  have KB : Kp (fun i => i = pb) w ((w.alloc (.cells #[.int .u64 a, .int .u64 a, .slice none 0 0, .int .u64 0, .int .u64 0, .slice none 0 0] 66)).setCell ⟨pb, k * 6 + 4, none⟩ (.int .u64 0)) := ((Kp.refl _ w).andAlloc _).put
  have HCR := hide CR
  have HKB := hide KB
  clear h hb hr CR KB
  go_enter Try.func64, Try.ntmps64
  go_wp2
  go_loopw [18] (fun i wr => i = .int .i64 0 ∧ wr = (w.alloc (.cells #[.int .u64 a, .int .u64 a, .slice none 0 0, .int .u64 0, .int .u64 0, .slice none 0 0] 66)).setCell ⟨pb, k * 6 + 4, none⟩ (.int .u64 0)) (fun _ _ => 0)
  case atStart => exact ⟨rfl, rfl⟩
  case round =>
    obtain ⟨rfl, rfl⟩ := hrel
    go_wp2_with (go_at_call 80; refine (FP _).mono ?_; rintro e w3 ⟨g, rfl, hg3, hb3, hk3⟩; have z5 := CP2 w3 hk3; have f5 := CF w3 hk3)
    go_ret
    have hR := (HCR.out w3 hk3).set (set_self hk _) 5 (by omega) (.slice (some ⟨g, 0, none⟩) 0 0) ⟨p.sent, p.acked, p.q, p.qs, p.mask, 0, .slice (some ⟨g, 0, none⟩) 0 0⟩ rfl
    rw [List.set_set] at hR
    exact ⟨rfl, g, hR, (HKB.out.andNu hk3).put⟩

theorem Row.ne {w : World} {b c : Nat} {ty ty' : TypeId} {ps : List Pr} {cs' : Array Value} (h : Row w b ty ps) (hc : w.heap[c]? = some (.cells cs' ty' (0, 0))) (ht : ty ≠ ty') : c ≠ b := by
  rintro rfl
  unfold Row at h
  rw [h] at hc
  simp only [Option.some.injEq, Obj.cells.injEq] at hc
  exact ht hc.2.1
/-- what Load is given here: a peer's numbers alone -/
def PrA (a : Int) : Pr := ⟨a, a, .slice none 0 0, [], 0, 0, .slice none 0 0⟩
/-- what stands behind some rounds of Load -/
structure Ld (B : Nat) (w0 wr : World) (eb pb : Nat) (wn : Int) (us : List Int) (L : List Pr) (n k : Nat) : Prop where
  kp : Kp Nu w0 wr
  hb : B ≤ eb
  hp : B ≤ pb
  blk : wr.heap[eb]? = some (.cells #[.int .u8 0, .int .i64 16, .int .i64 wn, .slice (some ⟨pb, 0, none⟩) n n] 117 (0, 0))
  row : Row wr pb 123 (L ++ List.replicate (n - k) Pr0)
  len : L.length = k
  pw : ∀ (i : Nat) (p : Pr), L[i]? = some p → us[i]? = some p.sent ∧ p.acked = p.sent ∧ p.qs = [] ∧ p.mask = 0 ∧ p.dlv = 0 ∧ (∃ g, p.q = .slice (some ⟨g, 0, none⟩) 0 0 ∧ B ≤ g ∧ wr.heap[g]? = some (.cells #[] 45 (0, 0))) ∧ ∃ ad cap, p.e = .slice ad 0 cap
  sep : ∀ (i j : Nat) (p r : Pr), L[i]? = some p → L[j]? = some r → p.q.ownBlock = r.q.ownBlock → i = j

theorem Ld.step {w0 wr w2 w3 : World} {us : List Int} {L : List Pr} {n k : Nat} (h : Ld B w0 wr eb pb wn us L n k) (hB : w0.heap.size = B) (hlt : k < n) {a : Int} (ha : us[k]? = some a)
    {g : Nat} (hg : wr.heap.size ≤ g) (hb : w2.heap[g]? = some (.cells #[] 45 (0, 0))) (k2 : Kp (fun i => i = pb) wr w2) (k3 : Kp (fun i => i = pb) w2 w3) {e : Value} (he : ∃ ad cap, e = .slice ad 0 cap)
    (hr : Row w3 pb 123 ((L ++ List.replicate (n - k) Pr0).set k ⟨a, a, .slice (some ⟨g, 0, none⟩) 0 0, [], 0, 0, e⟩)) :
    Ld B w0 w3 eb pb wn us (L ++ [⟨a, a, .slice (some ⟨g, 0, none⟩) 0 0, [], 0, 0, e⟩]) n (k + 1) := by
  have kk : Kp (fun i => i = pb) wr w3 := k2.trans k3 (fun _ _ e => e)
  have hpb := blk_lt h.row
  have hgp : g ≠ pb := by omega
  refine ⟨h.kp.trans kk (fun i hi e => by have := h.hp; omega), h.hb, h.hp, (kk.block _ (blk_lt h.blk) (fun e => h.row.ne h.blk (by decide) e)).trans h.blk, ?_, by simp [h.len], ?_, ?_⟩
  · have : (L ++ List.replicate (n - k) Pr0).set k ⟨a, a, .slice (some ⟨g, 0, none⟩) 0 0, [], 0, 0, e⟩ = (L ++ [⟨a, a, .slice (some ⟨g, 0, none⟩) 0 0, [], 0, 0, e⟩]) ++ List.replicate (n - (k + 1)) Pr0 := by
      have hl := h.len
      rw [List.set_append_right _ _ (by omega), show k - L.length = 0 by omega, show n - k = (n - (k + 1)) + 1 by omega, List.replicate_succ, List.set_cons_zero]
      simp
    rw [← this]; exact hr
  · intro i p hi
    rcases Nat.lt_or_ge i L.length with hl | hl
    · rw [List.getElem?_append_left hl] at hi
      obtain ⟨h1, h2, h3, h4, h5, ⟨g', h6, h7, h8⟩, h9⟩ := h.pw i p hi
      exact ⟨h1, h2, h3, h4, h5, ⟨g', h6, h7, (kk.block _ (blk_lt h8) (fun e => h.row.ne h8 (by decide) e)).trans h8⟩, h9⟩
    · have hi2 : i = L.length := by
        have := (List.getElem?_eq_some_iff.1 hi).1
        simp at this; omega
      subst hi2
      rw [List.getElem?_append_right (Nat.le_refl _)] at hi
      simp at hi
      subst hi
      refine ⟨by rw [h.len]; exact ha, rfl, rfl, rfl, rfl, ⟨g, rfl, ?_, (k3.block _ (blk_lt hb) (fun e => hgp e)).trans hb⟩, he⟩
      have := h.kp.size; omega
  · have hold : ∀ (i : Nat) (p : Pr), L[i]? = some p → ∃ g', p.q.ownBlock = some g' ∧ g' < wr.heap.size := fun i p hi => by
      obtain ⟨_, _, _, _, _, ⟨g', h6, _, h8⟩, _⟩ := h.pw i p hi
      exact ⟨g', by rw [h6]; rfl, blk_lt h8⟩
    intro i j p r hi hj e
    have hii := (List.getElem?_eq_some_iff.1 hi).1
    have hjj := (List.getElem?_eq_some_iff.1 hj).1
    simp only [List.length_append, List.length_singleton] at hii hjj
    rcases Nat.lt_or_ge i L.length with hl | hl
    · rw [List.getElem?_append_left hl] at hi
      obtain ⟨g1, e1, l1⟩ := hold i p hi
      rcases Nat.lt_or_ge j L.length with hl' | hl'
      · rw [List.getElem?_append_left hl'] at hj
        exact h.sep i j p r hi hj e
      · rw [List.getElem?_append_right hl', show j - L.length = 0 by omega] at hj
        simp at hj; subst hj
        rw [e1] at e
        simp [Value.ownBlock] at e
        omega
    · rw [List.getElem?_append_right hl, show i - L.length = 0 by omega] at hi
      simp at hi; subst hi
      rcases Nat.lt_or_ge j L.length with hl' | hl'
      · rw [List.getElem?_append_left hl'] at hj
        obtain ⟨g1, e1, l1⟩ := hold j r hj
        rw [e1] at e
        simp [Value.ownBlock] at e
        omega
      · omega

theorem own_empty {w : World} {B g : Nat} (hB : B ≤ g) (h : w.heap[g]? = some (.cells #[] 45 (0, 0))) : w.ownsRow B 45 1 (.slice (some ⟨g, 0, none⟩) 0 0) 0 [] :=
  ⟨rfl, .inr ⟨g, 0, #[], rfl, hB, h, Nat.le_refl _, Nat.zero_le _, rfl, rfl⟩⟩

theorem Ld.en {w0 wr : World} {us : List Int} {L : List Pr} {n : Nat} (h : Ld B w0 wr eb pb wn us L n n) (hn : 0 < n) (hn16 : n ≤ 16) (w1 : 1 ≤ wn) (w2 : wn ≤ 16) (ha : ∀ a ∈ us, 0 ≤ a ∧ a ≤ 18446744073709551615) : En B wr eb pb 0 16 wn L := by
  have hl := h.len
  have hrow : Row wr pb 123 L := by have := h.row; rwa [Nat.sub_self, List.replicate_zero, List.append_nil] at this
  refine ⟨by rw [hl]; exact h.blk, hrow, h.hb, h.hp, fun i p hi => ?_, fun i j p r hi hj e => .inl (h.sep i j p r hi hj e), by omega, by omega, by omega, by omega, w1, w2⟩
  obtain ⟨h1, h2, h3, h4, h5, ⟨g, h6, h7, h8⟩, h9⟩ := h.pw i p hi
  have hm := ha _ (List.mem_of_getElem? h1)
  refine ⟨by rw [h3, h6]; exact own_empty h7 h8, by rw [h3]; simp, h9, by rw [h3, h2]; simp, by rw [h2]; exact hm.1, hm.2⟩
end
end Go.Proofs.Ytbhdhoeaogbfbaa.Xo
