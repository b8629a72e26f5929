import Derived.Test.YthajboipnjjgfaaLyA
namespace Go.Proofs.Ythajboipnjjgfaa.Ly
open Go.RowKit Go.Maps
set_option linter.unusedVariables false

/-- a datagram on its way: whence, whither, the slice of its bytes, the bytes -/
structure Gm where
  f : Int
  t : Int
  d : Value
  ys : List Int
def Gm.cells (g : Gm) : List Value := [.int .u8 g.f, .int .u8 g.t, g.d]
def cells (L : List Gm) : List Value := L.flatMap Gm.cells
theorem cells_length (L : List Gm) : (cells L).length = L.length * 3 := by
  induction L with
  | nil => rfl
  | cons g r ih => simp only [cells, List.flatMap_cons, List.length_append] at *; rw [ih]; simp [Gm.cells]; omega
theorem cells_append (a b : List Gm) : cells (a ++ b) = cells a ++ cells b := by simp [cells]
def Gm.agg (g : Gm) : Value := .agg #[.int .u8 g.f, .int .u8 g.t, g.d]

/-- the bytes of a datagram in the list are a row of its own -/
structure Dg (w : World) (B : Nat) (g : Gm) : Prop where
  own : w.ownsRow B 5 1 g.d g.ys.length (cs g.ys)
  pos : 0 < g.ys.length
  le : g.ys.length ≤ 1024
  f0 : 0 ≤ g.f
  f1 : g.f < 256
  t0 : 0 ≤ g.t
  t1 : g.t < 256
theorem Dg.keep {w w' : World} {B : Nat} {g : Gm} (h : Dg w B g) (hk : ∀ (k : Nat) (cur : Array Value), w.heap[k]? = some (.cells cur 5 (0, 0)) → w'.heap[k]? = w.heap[k]?) : Dg w' B g :=
  ⟨own_keep h.own (fun k hg => by obtain ⟨cur, hc⟩ := own_obj h.own hg; exact hk k cur hc), h.pos, h.le, h.f0, h.f1, h.t0, h.t1⟩
theorem Dg.slice {w : World} {B : Nat} {g : Gm} (h : Dg w B g) : ∃ k cap, g.d = .slice (some ⟨k, 0, none⟩) g.ys.length cap := by
  rcases h.own.2 with ⟨_, h0⟩ | ⟨g', cap, cur, e, _⟩
  · have := h.pos; omega
  · exact ⟨g', cap, e⟩

/-- the counts -/
structure Ct where
  s : Int
  i : Int
  d : Int
  c : Int
  x : Int
  l : Int
  b : Int
def Ct0 : Ct := ⟨0, 0, 0, 0, 0, 0, 0⟩
/-- they are within bounds -/
structure Cok (c : Ct) (M : Int) : Prop where
  s0 : 0 ≤ c.s
  s1 : c.s ≤ M
  i0 : 0 ≤ c.i
  i1 : c.i ≤ M
  d0 : 0 ≤ c.d
  d1 : c.d ≤ M
  c0 : 0 ≤ c.c
  c1 : c.c ≤ M
  x0 : 0 ≤ c.x
  x1 : c.x ≤ M
  l0 : 0 ≤ c.l
  l1 : c.l ≤ M
  b0 : 0 ≤ c.b
  b1 : c.b ≤ M

def nblk (room : Int) (v : Value) (bm : Nat) (c : Ct) : Array Value :=
  #[.int .i64 room, v, .map (some bm), .int .i64 c.s, .int .i64 c.i, .int .i64 c.d, .int .i64 c.c, .int .i64 c.x, .int .i64 c.l, .int .i64 c.b]

/-- a network at block b, made behind block B -/
structure Nt (B : Nat) (w : World) (b bm nb : Nat) (room : Int) (D : DataW Unit) (v : Value) (c : Ct) (L : List Gm) : Prop where
  blk : w.heap[b]? = some (.cells (nblk room v bm c) 77 (0, 0))
  map : w.ownsMap Try.prog 86 unitElem bm nb D
  own : w.ownsRow B 38 3 v L.length (cells L)
  dat : ∀ g ∈ L, Dg w B g
  hb : B ≤ b
  hm : B ≤ bm
  r0 : 1 ≤ room
  r1 : room ≤ 4096
  len : (L.length : Int) ≤ room

theorem Nt.c0 {B b bm nb : Nat} {w : World} {room : Int} {D : DataW Unit} {v : Value} {c : Ct} {L : List Gm} (h : Nt B w b bm nb room D v c L) : w.cell? ⟨b, 0, none⟩ = some (.int .i64 room) := by simp [World.cell?, h.blk, nblk]
theorem Nt.c1 {B b bm nb : Nat} {w : World} {room : Int} {D : DataW Unit} {v : Value} {c : Ct} {L : List Gm} (h : Nt B w b bm nb room D v c L) : w.cell? ⟨b, 1, none⟩ = some v := by simp [World.cell?, h.blk, nblk]
theorem Nt.c2 {B b bm nb : Nat} {w : World} {room : Int} {D : DataW Unit} {v : Value} {c : Ct} {L : List Gm} (h : Nt B w b bm nb room D v c L) : w.cell? ⟨b, 2, none⟩ = some (.map (some bm)) := by simp [World.cell?, h.blk, nblk]
theorem Nt.c3 {B b bm nb : Nat} {w : World} {room : Int} {D : DataW Unit} {v : Value} {c : Ct} {L : List Gm} (h : Nt B w b bm nb room D v c L) : w.cell? ⟨b, 3, none⟩ = some (.int .i64 c.s) := by simp [World.cell?, h.blk, nblk]
theorem Nt.c4 {B b bm nb : Nat} {w : World} {room : Int} {D : DataW Unit} {v : Value} {c : Ct} {L : List Gm} (h : Nt B w b bm nb room D v c L) : w.cell? ⟨b, 4, none⟩ = some (.int .i64 c.i) := by simp [World.cell?, h.blk, nblk]
theorem Nt.c5 {B b bm nb : Nat} {w : World} {room : Int} {D : DataW Unit} {v : Value} {c : Ct} {L : List Gm} (h : Nt B w b bm nb room D v c L) : w.cell? ⟨b, 5, none⟩ = some (.int .i64 c.d) := by simp [World.cell?, h.blk, nblk]
theorem Nt.c6 {B b bm nb : Nat} {w : World} {room : Int} {D : DataW Unit} {v : Value} {c : Ct} {L : List Gm} (h : Nt B w b bm nb room D v c L) : w.cell? ⟨b, 6, none⟩ = some (.int .i64 c.c) := by simp [World.cell?, h.blk, nblk]
theorem Nt.c7 {B b bm nb : Nat} {w : World} {room : Int} {D : DataW Unit} {v : Value} {c : Ct} {L : List Gm} (h : Nt B w b bm nb room D v c L) : w.cell? ⟨b, 7, none⟩ = some (.int .i64 c.x) := by simp [World.cell?, h.blk, nblk]
theorem Nt.c8 {B b bm nb : Nat} {w : World} {room : Int} {D : DataW Unit} {v : Value} {c : Ct} {L : List Gm} (h : Nt B w b bm nb room D v c L) : w.cell? ⟨b, 8, none⟩ = some (.int .i64 c.l) := by simp [World.cell?, h.blk, nblk]
theorem Nt.c9 {B b bm nb : Nat} {w : World} {room : Int} {D : DataW Unit} {v : Value} {c : Ct} {L : List Gm} (h : Nt B w b bm nb room D v c L) : w.cell? ⟨b, 9, none⟩ = some (.int .i64 c.b) := by simp [World.cell?, h.blk, nblk]

/-- what a network's calls may write -/
def fp (b bm : Nat) (v : Value) : Nat → Prop := fun k => k = b ∨ k = bm ∨ some k = v.ownBlock

section
variable {B b bm nb : Nat} {w w' : World} {room : Int} {D : DataW Unit} {v : Value} {c : Ct} {L : List Gm}

theorem map_obj (h : w.ownsMap Try.prog 86 unitElem bm nb D) : ∃ es clock, w.heap[bm]? = some (.map es clock) := by
  obtain ⟨es, clock, hb, _⟩ := h
  exact ⟨es, clock, hb⟩
theorem Nt.ne_bm (h : Nt B w b bm nb room D v c L) : bm ≠ b := by
  rintro rfl
  obtain ⟨es, clock, hb⟩ := map_obj h.map
  rw [h.blk] at hb; cases hb
theorem Nt.ne_own (h : Nt B w b bm nb room D v c L) {g : Nat} (hg : v.ownBlock = some g) : g ≠ b ∧ g ≠ bm := by
  obtain ⟨cur, hc⟩ := own_obj h.own hg
  constructor
  · rintro rfl; rw [h.blk] at hc; cases hc
  · rintro rfl
    obtain ⟨es, clock, hb⟩ := map_obj h.map
    rw [hb] at hc; cases hc
/-- a block of bytes is none of the network's -/
theorem Nt.byte (h : Nt B w b bm nb room D v c L) {k : Nat} {cur : Array Value} (hk : w.heap[k]? = some (.cells cur 5 (0, 0))) : ¬ fp b bm v k := by
  rintro (rfl | rfl | e)
  · rw [h.blk] at hk; cases hk
  · obtain ⟨es, clock, hb⟩ := map_obj h.map
    rw [hb] at hk; cases hk
  · obtain ⟨cur', hc⟩ := own_obj h.own e.symm
    rw [hc] at hk; cases hk
/-- kept where none of its blocks has turned -/
theorem Nt.keep {S : Nat → Prop} (h : Nt B w b bm nb room D v c L) (k : Kp S w w') (hS : ∀ i, i < w.heap.size → S i → ¬ fp b bm v i ∧ ∀ cur, w.heap[i]? ≠ some (.cells cur 5 (0, 0))) : Nt B w' b bm nb room D v c L := by
  have kb : ∀ i o, w.heap[i]? = some o → fp b bm v i → w'.heap[i]? = w.heap[i]? := fun i o hi hf => k.block i (blk_lt hi) (fun hs => (hS i (blk_lt hi) hs).1 hf)
  refine ⟨(kb b _ h.blk (.inl rfl)).trans h.blk, ?_, own_keep h.own (fun g hg => ?_), fun g hg => (h.dat g hg).keep (fun i cur hi => k.block i (blk_lt hi) (fun hs => (hS i (blk_lt hi) hs).2 cur hi)), h.hb, h.hm, h.r0, h.r1, h.len⟩
  · obtain ⟨es, clock, hb, r⟩ := h.map
    exact ⟨es, clock, (kb bm _ hb (.inr (.inl rfl))).trans hb, r⟩
  · obtain ⟨cur, hc⟩ := own_obj h.own hg
    exact kb g _ hc (.inr (.inr hg.symm))
theorem Nt.nu (h : Nt B w b bm nb room D v c L) (k : Kp Nu w w') : Nt B w' b bm nb room D v c L := h.keep k (fun i _ hs => hs.elim)
theorem Nt.drew (h : Nt B w b bm nb room D v c L) : Nt B w.drew b bm nb room D v c L := ⟨h.blk, h.map, h.own, fun g hg => ⟨(h.dat g hg).own, (h.dat g hg).pos, (h.dat g hg).le, (h.dat g hg).f0, (h.dat g hg).f1, (h.dat g hg).t0, (h.dat g hg).t1⟩, h.hb, h.hm, h.r0, h.r1, h.len⟩
theorem Nt.low (h : Nt B w b bm nb room D v c L) : ∀ k, fp b bm v k → B ≤ k := by
  rintro k (rfl | rfl | e)
  · exact h.hb
  · exact h.hm
  · rcases h.own.2 with ⟨rfl, _⟩ | ⟨g, cap, cur, rfl, hg, _⟩
    · cases e
    · simp [Value.ownBlock] at e; omega
/-- one of the net's own cells is written -/
theorem Nt.set (h : Nt B w b bm nb room D v c L) (o : Nat) (u : Value) {c' : Ct} (he : (nblk room v bm c).setIfInBounds o u = nblk room v bm c') : Nt B (w.setCell ⟨b, o, none⟩ u) b bm nb room D v c' L := by
  have k : Kp (fun k => k = b) w (w.setCell ⟨b, o, none⟩ u) := Kp.setCell w ⟨b, o, none⟩ u
  refine ⟨by rw [set3 h.blk, he], ?_, own_keep h.own (fun g hg => k.block g (own_lt h.own hg) (h.ne_own hg).1), fun g hg => (h.dat g hg).keep (fun i cur hi => k.block i (blk_lt hi) (fun e => h.byte hi (.inl e))), h.hb, h.hm, h.r0, h.r1, h.len⟩
  exact h.map.setCell (h.ne_bm) u
theorem fp_set (h : Kp (fp b bm v) w w') (o : Nat) (u : Value) : Kp (fp b bm v) w (w'.setCell ⟨b, o, none⟩ u) := h.andSet _ _ (.inr (.inl rfl))
end

/-- a link as the map's key -/
def lk (f t : Int) : Lit := .string (keyBytes [.int .u8 f, .int .u8 t])
theorem wf8 {x : Int} (h0 : 0 ≤ x) (h1 : x < 256) : (Lit.int .u8 x).wf = true := by
  have e0 : IntKind.u8.min = 0 := rfl
  have e1 : IntKind.u8.max = 255 := rfl
  simp [Lit.wf]
  omega
theorem laidOut : laidOutB Try.prog = true := by kernel_rfl
theorem keyed : Keyed Try.prog 86 := Keyed.of_law (deep_law_laid laidOut (m := 3) (by omega) (of_decide_eq_true (by kernel_rfl)) (by kernel_rfl) (by kernel_rfl))
theorem unit92 (w : World) : (zeroValue 92).run Try.prog w = .ok (.agg #[]) w := by kernel_rfl

theorem kt86 : Try.prog.keyType 86 = true := by kernel_rfl
theorem ts180 : Try.prog.types.size = 179 + 1 := by kernel_rfl
theorem ce86 : Try.prog.cellsOf 86 = 2 := by kernel_rfl
theorem ce28 : Try.prog.cellsOf 28 = 1 := by kernel_rfl
theorem key_lk {f t : Int} (f0 : 0 ≤ f) (f1 : f < 256) (t0 : 0 ≤ t) (t1 : t < 256) : keyOf Try.prog 86 (.agg #[.int .u8 f, .int .u8 t]) = some (lk f t) := by
  have hf := wf8 f0 f1
  have ht := wf8 t0 t1
  unfold keyOf lk
  simp only [Try.underlying86]
  rw [if_pos (by simp [kt86, Value.formed, Try.underlying86, ce86]), ts180]
  unfold Program.keyLits
  simp only [Try.underlying86, Value.cells]
  rw [if_pos ⟨by rw [ce86]; rfl, by kernel_rfl⟩, List.mapM_cons, List.mapM_cons, List.mapM_nil]
  simp [ce28, Program.keyLits, Try.underlying28, hf, ht]
theorem two_of {xs : Array Value} (h : xs.size = 2) : ∃ x y, xs = #[x, y] := by
  obtain ⟨xs⟩ := xs
  match xs, h with
  | [x, y], _ => exact ⟨x, y, rfl⟩
theorem lk_inv {key : Value} {kl : Lit} (h : keyOf Try.prog 86 key = some kl) : ∃ f t : Int, key = .agg #[.int .u8 f, .int .u8 t] ∧ kl = lk f t ∧ 0 ≤ f ∧ f < 256 ∧ 0 ≤ t ∧ t < 256 := by
  unfold keyOf at h
  simp only [Try.underlying86] at h
  split at h
  · rename_i hc
    obtain ⟨l, hl, rfl⟩ := Option.map_eq_some_iff.1 h
    rw [ts180] at hl
    unfold Program.keyLits at hl
    simp only [Try.underlying86] at hl
    split at hl
    · rename_i hs
      rw [List.mapM_cons, List.mapM_cons, List.mapM_nil] at hl
      simp only [bind, Option.bind_eq_some_iff, pure, Option.some.injEq, ce28, Option.map_eq_some_iff] at hl
      obtain ⟨xs, ⟨a, ha, _, ⟨b, hb, _, rfl, rfl⟩, rfl⟩, rfl⟩ := hl
      obtain ⟨f, ef, rfl⟩ := Go.keyLits_int' Try.underlying28 ha
      obtain ⟨t, et, rfl⟩ := Go.keyLits_int' Try.underlying28 hb
      have wa := keyLits_wf ha (.int .u8 f) (by simp)
      have wb := keyLits_wf hb (.int .u8 t) (by simp)
      have e0 : IntKind.u8.min = 0 := rfl
      have e1 : IntKind.u8.max = 255 := rfl
      simp [Lit.keyWf, Lit.wf] at wa wb
      simp only [Bool.and_eq_true, Value.formed, Try.underlying86] at hc
      obtain ⟨_, hk⟩ := hc
      cases key <;> simp at hk
      rename_i xs
      rw [ce86] at hk
      simp only [Value.cells] at ef et
      obtain ⟨x, y, rfl⟩ := two_of hk
      simp at ef et
      subst ef et
      exact ⟨f, t, rfl, rfl, by omega, by omega, by omega, by omega⟩
    · cases hl
  · cases h
end Go.Proofs.Ythajboipnjjgfaa.Ly
