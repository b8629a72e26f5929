import Derived.Test.YtffcnonhhfhlhaaDoorWkC
namespace Go.Proofs.YtffcnonhhfhlhaaDoor.Rg
open Go.RowKit Go.Shelf Go.Sort
open Go.Proofs.YtffcnonhhfhlhaaDoor.It
set_option linter.unusedVariables false
abbrev Sp.agg (s : Sp) : Value := .agg #[.int .i64 s.kind, .int .u64 s.lo, .int .u64 s.hi, .int .u8 s.h]
def SpB (s : Sp) : Prop := 0 ≤ s.lo ∧ s.lo < 18446744073709551616 ∧ 0 ≤ s.hi ∧ s.hi < 18446744073709551616 ∧ 0 ≤ s.h ∧ s.h < 256
theorem cell4' {w : World} {b : Nat} {x0 x1 x2 x3 : Value} {t : TypeId} (h : w.heap[b]? = some (.cells #[x0, x1, x2, x3] t (0, 0))) : w.cell? ⟨b, 0, none⟩ = some x0 ∧ w.cell? ⟨b, 1, none⟩ = some x1 ∧ w.cell? ⟨b, 2, none⟩ = some x2 ∧ w.cell? ⟨b, 3, none⟩ = some x3 := by
  simp [World.cell?, h]
/-- the boxes of the law -/
structure Bx (V : World) (bs bp bt br : Nat) (s th : Sp) (stop : Int) : Prop where
  s : V.heap[bs]? = some (.cells #[.int .i64 s.kind, .int .u64 s.lo, .int .u64 s.hi, .int .u8 s.h] 36 (0, 0))
  p : V.heap[bp]? = some (.cells #[.int .i64 stop] 3 (0, 0))
  t : V.heap[bt]? = some (.cells #[.int .i64 th.kind, .int .u64 th.lo, .int .u64 th.hi, .int .u8 th.h] 36 (0, 0))
  r : V.heap[br]? = some (.cells #[.bool false] 4 (0, 0))
theorem Bx.nu {V V' : World} {bs bp bt br : Nat} {s th : Sp} {stop : Int} (h : Bx V bs bp bt br s th stop) (k : Kp Nu V V') : Bx V' bs bp bt br s th stop :=
  ⟨(k.block _ (blk_lt h.s) (fun h => h)).trans h.s, (k.block _ (blk_lt h.p) (fun h => h)).trans h.p, (k.block _ (blk_lt h.t) (fun h => h)).trans h.t, (k.block _ (blk_lt h.r) (fun h => h)).trans h.r⟩
theorem two_al (w : World) (c1 c2 : Array Value) (t1 t2 : TypeId) : ((w.alloc (.cells c1 t1)).alloc (.cells c2 t2)).heap[w.heap.size]? = some (.cells c1 t1 (0, 0)) ∧ ((w.alloc (.cells c1 t1)).alloc (.cells c2 t2)).heap[w.heap.size + 1]? = some (.cells c2 t2 (0, 0)) ∧ Kp Nu w ((w.alloc (.cells c1 t1)).alloc (.cells c2 t2)) :=
  ⟨(Below.heap_alloc _ _ _ (by simp)).trans (heap_alloc_new w _), by have := heap_alloc_new (w.alloc (.cells c1 t1)) (.cells c2 t2); rwa [World.size_alloc] at this, (Kp.alloc w _ Nu).andAlloc _⟩
theorem own_lower {w : World} {B B' t e n : Nat} {v : Value} {xs : List Value} (h : w.ownsRow B t e v n xs) (hB : B' ≤ B) : w.ownsRow B' t e v n xs := by
  refine ⟨h.1, ?_⟩
  rcases h.2 with h | ⟨r, cap, cur, e, h1, h2⟩
  · exact .inl h
  · exact .inr ⟨r, cap, cur, e, by omega, h2⟩
/-- the cells of all blocks of other types are as they were -/
def Fy (t0 : TypeId) (w V : World) : Prop := ∀ (k : Nat) (c : Array Value) (t : TypeId) (m : Nat × Nat), t ≠ t0 → w.heap[k]? = some (.cells c t m) → V.heap[k]? = some (.cells c t m)
theorem Fy.set {t0 : TypeId} {V : World} {k : Nat} {c : Array Value} {m : Nat × Nat} (h : V.heap[k]? = some (.cells c t0 m)) (o : Nat) (x : Value) : Fy t0 V (V.setCell ⟨k, o, none⟩ x) := fun i c' t m' ht e =>
  (Below.heap_setCell V ⟨k, o, none⟩ x i (fun e2 => by have e2 : i = k := e2; rw [e2, h] at e; cases e; exact ht rfl)).trans e
theorem Fy.own {t0 : TypeId} {V X : World} {B : Nat} {u : Value} {W : List Sg} (f : Fy t0 V X) (ht : (26 : TypeId) ≠ t0) (h : V.ownsRow B 26 3 u W.length (cells W)) : X.ownsRow B 26 3 u W.length (cells W) :=
  own_keep h (fun g e => by
    rcases h.2 with ⟨h1, _⟩ | ⟨r, cap, cur, e1, hB, hg, _⟩
    · rw [h1] at e; cases e
    · rw [e1] at e
      have e3 : r = g := by simpa [Value.ownBlock] using e
      subst e3
      rw [hg]
      exact f _ _ _ _ ht hg)
theorem Fy.tb {t0 : TypeId} {V X : World} {B b : Nat} {lim : Int} {v : Value} {L : List Sg} (f : Fy t0 V X) (h1 : (26 : TypeId) ≠ t0) (h2 : (93 : TypeId) ≠ t0) (h : Tb B V b lim v L) : Tb B X b lim v L :=
  ⟨f _ _ _ _ h2 h.blk, h.low, f.own h1 h.own, h.tab, h.len, h.lim1⟩
/-- the boxes and what they hold -/
structure Wb (w V : World) (bs bp bt br bT bR bw bf : Nat) (s th : Sp) (stop lim : Int) (B b : Nat) (v vr uw : Value) (L W : List Sg) (gf : Nat) (lb : Array Value) : Prop where
  bx : Bx V bs bp bt br s th stop
  xT : V.heap[bT]? = some (.cells #[.pointer (some ⟨b, 0, none⟩)] 27 (0, 0))
  xR : V.heap[bR]? = some (.cells #[.int .i64 lim, vr] 29 (0, 0))
  xW : V.heap[bw]? = some (.cells #[uw] 22 (0, 0))
  xF : V.heap[bf]? = some (.cells #[.func (.func gf) #[] lb] 39 (0, 0))
  tb : Tb B V b lim v L
  ov : V.ownsRow w.heap.size 26 3 vr L.length (cells L)
  ow : V.ownsRow w.heap.size 26 3 uw W.length (cells W)
  sq : Sq b V gf lb W
  bel : Below w.heap.size w V
  low : w.heap.size ≤ B
  len : W.length ≤ 8192
theorem wiA_len {lo hi : Int} {L : List Sg} : (wiA lo hi L).length ≤ L.length := by
  unfold wiA
  split
  · exact wiD_len lo hi L
  · simp
section
variable {w w6 V : World} {bs bp bt br bT bR bw bf : Nat} {s th : Sp} {stop lim : Int} {B b : Nat} {v vr uw : Value} {L W : List Sg} {gf : Nat} {lb : Array Value}
/-- all of it stands but for the table -/
theorem Wb.at (h : Wb w w6 bs bp bt br bT bR bw bf s th stop lim B b v vr uw L W gf lb) (f : Fx b w6 V) :
    Bx V bs bp bt br s th stop ∧ V.heap[bT]? = some (.cells #[.pointer (some ⟨b, 0, none⟩)] 27 (0, 0)) ∧ V.heap[bR]? = some (.cells #[.int .i64 lim, vr] 29 (0, 0)) ∧ V.heap[bw]? = some (.cells #[uw] 22 (0, 0)) ∧ V.heap[bf]? = some (.cells #[.func (.func gf) #[] lb] 39 (0, 0)) ∧ V.ownsRow w.heap.size 26 3 vr L.length (cells L) ∧ V.ownsRow w.heap.size 26 3 uw W.length (cells W) := by
  have n := fun {k : Nat} {c : Array Value} {t : TypeId} {m : Nat × Nat} (hk : w6.heap[k]? = some (.cells c t m)) (ht : t ≠ 93) => f k c t m (h.tb.ne3 hk ht) hk
  exact ⟨⟨n h.bx.s (by decide), n h.bx.p (by decide), n h.bx.t (by decide), n h.bx.r (by decide)⟩, n h.xT (by decide), n h.xR (by decide), n h.xW (by decide), n h.xF (by decide), own_fx h.ov f ⟨_, h.tb.blk⟩, own_fx h.ow f ⟨_, h.tb.blk⟩⟩
end
/-- the table's list in round rd behind n segments -/
def curL (stop : Int) (N : Nat) (L L' : List Sg) (rd n : Nat) : List Sg := if stop < 0 then L' else if rd = 0 then L else if rd = 1 then (if stop < (n : Int) then L' else L) else if stop < (N : Int) then L' else L
theorem curL_one {stop : Int} {N : Nat} {L L' : List Sg} {n : Nat} (h : ¬ stop < 0) : curL stop N L L' 1 n = if stop < (n : Int) then L' else L := by
  unfold curL; rw [if_neg h]; rfl
theorem pre_at {W pre : List Sg} {x : Sg} (h : pre ++ [x] <+: W) : W[pre.length]? = some x ∧ pre.length < W.length := by
  obtain ⟨t, rfl⟩ := h
  constructor
  · simp
  · simp
/-- what stands ahead of a segment -/
def WJ (Ls : List Nat) (w w6 : World) (b B bn bi : Nat) (lim stop : Int) (N : Nat) (L L' : List Sg) (rd : Nat) (pre : List Sg) (V : World) : Prop :=
  Wj Ls w w6 b B bn bi lim (rd : Int) (pre.length : Int) (curL stop N L L' rd pre.length) V ∧ (rd = 0 → ¬ (0 < stop ∧ stop ≤ (pre.length : Int)))
/-- what stands where it is stopped -/
def WX (Ls : List Nat) (w w6 : World) (b B bn bi : Nat) (lim stop : Int) (N : Nat) (L L' : List Sg) (rd : Nat) (c : Code) (pre : List Sg) (V : World) : Prop :=
  c = .exit 2 ∧ rd = 0 ∧ stop = (pre.length : Int) ∧ Wj Ls w w6 b B bn bi lim (rd : Int) (pre.length : Int) (curL stop N L L' rd pre.length) V
theorem fin_body {Ls : List Nat} {w w6 V Y : World} {b B bn bi B0 : Nat} {lim rd n n' : Int} {Lc Lc' : List Sg} {K : Nat → TypeId → Prop} {T : Nat → Prop} (hK : Kf b w6 K) (hJ : Wj Ls w w6 b B bn bi lim rd n Lc V) (hJ' : Wj Ls w w6 b B bn bi lim rd n' Lc' Y) (k : Kp T V Y) (hT : ∀ i, T i → i = bi ∨ i = b) : KeepsFrom B0 V Y ∧ Kc K V Y := by
  obtain ⟨v, ht⟩ := hJ.t
  refine ⟨kf_cells k (fun i e => ?_), hK.kc hJ.fx hJ'.fx k (fun i c m e h => ?_)⟩
  · rcases hT i e with e | e
    · exact ⟨_, _, _, by subst e; exact hJ.i⟩
    · exact ⟨_, _, _, by subst e; exact ht.blk⟩
  · rcases hT i e with e | e
    · subst e; rw [hJ.i] at h; cases h
    · subst e; rw [ht.blk] at h; cases h
def cL : Code → Code
  | .seq a _ => a
  | c => c
def cR : Code → Code
  | .seq _ b => b
  | c => c
def cI : Code → Code
  | .block _ c => c
  | .loop c => c
  | .rangeFunc _ _ _ c => c
  | .cond _ c _ => c
  | c => c
/-- the law's text behind the making of the sequence -/
def tail9 (f : Func) : Code := cR (cR (cR (cR (cR (cR (f.body.getD .skip))))))
/-- the loop's round -/
def loop4 (f : Func) : Code := cI (cI (cR (cL (cR (cR (tail9 f))))))
/-- the round of the loop: its sequence -/
def round4 (f : Func) : Code := cL (cR (cI (cI (cR (cL (cR (cR (tail9 f))))))))
/-- what is done with a segment -/
def body4 (f : Func) : Code := cI (cI (cR (cL (cR (cI (round4 f))))))
/-- what is done with a segment of the range within -/
def inner4 (f : Func) : Code := cI (cI (cR (cL (cR (cI (cR (cL (cR (cR (cI (body4 f)))))))))))
end Go.Proofs.YtffcnonhhfhlhaaDoor.Rg
