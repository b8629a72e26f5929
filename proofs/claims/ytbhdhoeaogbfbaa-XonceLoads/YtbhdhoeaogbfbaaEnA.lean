import Derived.Test.YtbhdhoeaogbfbaaKpA
import Derived.Deep.RegionHeld
import Derived.Deep.RegionHeldLaw
import Derived.Deep.RegionLaw
namespace Go.Proofs.Ytbhdhoeaogbfbaa.Xo
open Go.RowKit
set_option linter.unusedVariables false

/-- what is kept for a peer, or told of one: the numbers, the queue's slice and its payloads, the slice of what came early (empty here) -/
structure Pr where
  sent : Int
  acked : Int
  q : Value
  qs : List (Value × List Int)
  mask : Int
  dlv : Int
  e : Value
def Pr.cells (p : Pr) : List Value := [.int .u64 p.sent, .int .u64 p.acked, p.q, .int .u64 p.mask, .int .u64 p.dlv, p.e]
def Pr.agg (p : Pr) : Value := .agg #[.int .u64 p.sent, .int .u64 p.acked, p.q, .int .u64 p.mask, .int .u64 p.dlv, p.e]
def flat (ps : List Pr) : List Value := ps.flatMap Pr.cells
theorem flat_length : ∀ L : List Pr, (flat L).length = L.length * 6
  | [] => rfl
  | s :: L => by
    have := flat_length L
    simp only [flat, List.flatMap_cons, List.length_append] at this ⊢
    simp [Pr.cells, this]; omega
theorem flat_append (A B : List Pr) : flat (A ++ B) = flat A ++ flat B := by simp [flat]
theorem flat_at : ∀ (l : List Pr) (k : Nat) (x : Pr), l[k]? = some x → ∀ j, j < 6 → (flat l)[k * 6 + j]? = (x.cells)[j]?
  | [], k, x, h, j, _ => by simp at h
  | a :: l, 0, x, h, j, hj => by
    simp at h; subst h
    simp only [flat, List.flatMap_cons, Nat.zero_mul, Nat.zero_add]
    rw [List.getElem?_append_left (by simp [Pr.cells]; omega)]
  | a :: l, k + 1, x, h, j, hj => by
    have ih := flat_at l k x (by simpa using h) j hj
    simp only [flat, List.flatMap_cons]
    rw [List.getElem?_append_right (by simp [Pr.cells]; omega)]
    have : (k + 1) * 6 + j - (Pr.cells a).length = k * 6 + j := by simp [Pr.cells]; omega
    rw [this]; exact ih
theorem flat_set : ∀ (l : List Pr) (k : Nat) (x y : Pr) (j : Nat) (u : Value), l[k]? = some x → j < 6 → x.cells.set j u = y.cells → (flat l).set (k * 6 + j) u = flat (l.set k y)
  | [], k, x, y, j, u, h, _, _ => by simp at h
  | a :: l, 0, x, y, j, u, h, hj, e => by
    simp at h; subst h
    simp only [flat, List.flatMap_cons, Nat.zero_mul, Nat.zero_add, List.set_cons_zero]
    rw [List.set_append_left _ _ (by simp [Pr.cells]; omega), e]
  | a :: l, k + 1, x, y, j, u, h, hj, e => by
    have ih := flat_set l k x y j u (by simpa using h) hj e
    simp only [flat, List.flatMap_cons, List.set_cons_succ] at ih ⊢
    rw [List.set_append_right _ _ (by simp [Pr.cells]; omega)]
    have : (k + 1) * 6 + j - (Pr.cells a).length = k * 6 + j := by simp [Pr.cells]; omega
    rw [this, ih]

/-- a row of peers at a block -/
def Row (w : World) (b : Nat) (ty : TypeId) (ps : List Pr) : Prop := w.heap[b]? = some (.cells (flat ps).toArray ty (0, 0))
theorem Row.at {w : World} {b : Nat} {ty : TypeId} {ps : List Pr} (h : Row w b ty ps) {k : Nat} {p : Pr} (hk : ps[k]? = some p) :
    w.cell? ⟨b, k * 6, none⟩ = some (.int .u64 p.sent) ∧ w.cell? ⟨b, k * 6 + 1, none⟩ = some (.int .u64 p.acked) ∧ w.cell? ⟨b, k * 6 + 2, none⟩ = some p.q ∧ w.cell? ⟨b, k * 6 + 3, none⟩ = some (.int .u64 p.mask) ∧ w.cell? ⟨b, k * 6 + 4, none⟩ = some (.int .u64 p.dlv) ∧ w.cell? ⟨b, k * 6 + 5, none⟩ = some p.e := by
  have key : ∀ j, j < 6 → w.cell? ⟨b, k * 6 + j, none⟩ = (p.cells)[j]? := by
    intro j hj
    have e1 := flat_at ps k p hk j hj
    have hb : w.heap[b]? = some (.cells (flat ps).toArray ty (0, 0)) := h
    simpa [World.cell?, hb] using e1
  exact ⟨key 0 (by omega), key 1 (by omega), key 2 (by omega), key 3 (by omega), key 4 (by omega), key 5 (by omega)⟩
theorem Row.set {w : World} {b : Nat} {ty : TypeId} {ps : List Pr} (h : Row w b ty ps) {k : Nat} {p : Pr} (hk : ps[k]? = some p) (j : Nat) (hj : j < 6) (u : Value) (p' : Pr) (e : p.cells.set j u = p'.cells) :
    Row (w.setCell ⟨b, k * 6 + j, none⟩ u) b ty (ps.set k p') := by
  have hb : w.heap[b]? = some (.cells (flat ps).toArray ty (0, 0)) := h
  unfold Row
  rw [set3 hb, List.setIfInBounds_toArray, flat_set ps k p p' j u hk hj e]
theorem Row.keep {w w' : World} {b : Nat} {ty : TypeId} {ps : List Pr} (h : Row w b ty ps) (k : w'.heap[b]? = w.heap[b]?) : Row w' b ty ps := by
  unfold Row at *; rw [k, h]
theorem Row.free {w : World} {b : Nat} {ty : TypeId} {ps : List Pr} (h : Row w b ty ps) (o : Nat) : w.frozen? ⟨b, o, none⟩ = false := free3 h o

/-- a payload that is kept -/
def Pay (w : World) (B : Nat) (x : Value × List Int) : Prop := w.ownsRow B 5 1 x.1 x.2.length (cs x.2) ∧ 0 < x.2.length ∧ x.2.length ≤ 3072
/-- a peer's lists in memory -/
structure Pw (w : World) (B : Nat) (p : Pr) : Prop where
  own : w.ownsRow B 45 1 p.q p.qs.length (p.qs.map Prod.fst)
  pay : ∀ x ∈ p.qs, Pay w B x
  e0 : ∃ ad cap, p.e = .slice ad 0 cap
  nums : p.sent = p.acked + p.qs.length
  a0 : 0 ≤ p.acked
  s1 : p.sent ≤ 18446744073709551615
theorem Pw.slice {w : World} {B : Nat} {p : Pr} (h : Pw w B p) : ∃ ad cap, p.q = .slice ad p.qs.length cap := own_slice h.own

/-- an end in memory -/
structure En (B : Nat) (w : World) (eb pb : Nat) (me qn wn : Int) (ps : List Pr) : Prop where
  blk : w.heap[eb]? = some (.cells #[.int .u8 me, .int .i64 qn, .int .i64 wn, .slice (some ⟨pb, 0, none⟩) ps.length ps.length] 117 (0, 0))
  row : Row w pb 123 ps
  hb : B ≤ eb
  hp : B ≤ pb
  pw : ∀ (i : Nat) (p : Pr), ps[i]? = some p → Pw w B p
  sep : ∀ (i j : Nat) (p r : Pr), ps[i]? = some p → ps[j]? = some r → p.q.ownBlock = r.q.ownBlock → i = j ∨ p.q.ownBlock = none
  n0 : 0 < ps.length
  n1 : ps.length ≤ 16
  q0 : 1 ≤ qn
  q1 : qn ≤ 16
  w0 : 1 ≤ wn
  w1 : wn ≤ qn

section
variable {B eb pb : Nat} {w w' : World} {me qn wn : Int} {ps : List Pr}
theorem En.c0 (h : En B w eb pb me qn wn ps) : w.cell? ⟨eb, 0, none⟩ = some (.int .u8 me) := by simp [World.cell?, h.blk]
theorem En.c1 (h : En B w eb pb me qn wn ps) : w.cell? ⟨eb, 1, none⟩ = some (.int .i64 qn) := by simp [World.cell?, h.blk]
theorem En.c2 (h : En B w eb pb me qn wn ps) : w.cell? ⟨eb, 2, none⟩ = some (.int .i64 wn) := by simp [World.cell?, h.blk]
theorem En.c3 (h : En B w eb pb me qn wn ps) : w.cell? ⟨eb, 3, none⟩ = some (.slice (some ⟨pb, 0, none⟩) ps.length ps.length) := by simp [World.cell?, h.blk]
theorem Pay.nu {x : Value × List Int} (h : Pay w B x) (k : Kp Nu w w') : Pay w' B x := ⟨own_keep h.1 (fun g hg => k.block g (own_lt h.1 hg) (fun h => h)), h.2⟩
theorem Pw.nu {p : Pr} (h : Pw w B p) (k : Kp Nu w w') : Pw w' B p := ⟨own_keep h.own (fun g hg => k.block g (own_lt h.own hg) (fun h => h)), fun x hx => (h.pay x hx).nu k, h.e0, h.nums, h.a0, h.s1⟩
theorem En.nu (h : En B w eb pb me qn wn ps) (k : Kp Nu w w') : En B w' eb pb me qn wn ps :=
  ⟨(k.block _ (blk_lt h.blk) (fun h => h)).trans h.blk, h.row.keep (k.block _ (blk_lt h.row) (fun h => h)), h.hb, h.hp, fun i p hi => (h.pw i p hi).nu k, h.sep, h.n0, h.n1, h.q0, h.q1, h.w0, h.w1⟩

theorem num_any (n : Int) (w : World) : Calls Try.prog 18 #[.int .i64 n] w fun e w' => e = .returned (.int .i64 n) ∧ w' = w := by
  go_enter Try.func18, Try.ntmps18
  go_wp2
  go_ret
  exact ⟨rfl, rfl⟩
theorem wrap_small {x : Int} (h0 : 0 ≤ x) (h1 : x < 65536) : wrap64 x = x := by
  unfold wrap64; omega
set_option maxHeartbeats 400000 in
theorem made_any (h : En B w eb pb me qn wn ps) : Calls Try.prog 50 #[.pointer (some ⟨eb, 0, none⟩)] w fun e w' => e = .returned (.bool true) ∧ w' = w := by
  have c3 := h.c3
  have hN := h.n0
  clear h
  generalize ps.length = N at *
  go_enter Try.func50, Try.ntmps50
  go_wp2
  go_ret
  exact ⟨by simp, rfl⟩
set_option maxHeartbeats 400000 in
theorem peer_any (h : En B w eb pb me qn wn ps) (t : Nat) (ht : t < ps.length) (hs : (t : Int) ≠ me) : Calls Try.prog 53 #[.pointer (some ⟨eb, 0, none⟩), .int .u8 (t : Int)] w fun e w' => e = .returned (.pointer (some ⟨pb, t * 6, none⟩)) ∧ w' = w := by
  have c0 := h.c0
  have c3 := h.c3
  have h16 := h.n1
  have hw : wrap64 (t : Int) = (t : Int) := wrap_small (by omega) (by omega)
  have hn : ¬ (t : Int) ≥ (ps.length : Int) := by omega
  have hn2 : (t : Int) < (ps.length : Int) := by omega
  have h0 : (0 : Int) ≤ (t : Int) := by omega
  have hs2 : ((t : Int) == me) = false := by simp [hs]
  clear h
  generalize ps.length = N at *
  go_enter Try.func53, Try.ntmps53
  go_wp2
  go_ret
  exact ⟨rfl, rfl⟩
end
end Go.Proofs.Ytbhdhoeaogbfbaa.Xo
