import Derived.Test.YtffcnonhhfhlhaaDoorWsE
import Derived.Test.YtffcnonhhfhlhaaDoorLdD
import Derived.Test.YtffcnonhhfhlhaaDoorRgM
import Derived.Maps.AppendAt
import Derived.Test.YtffcnonhhfhlhaaDoorRgG0
import Derived.OwnWalkIn
import Derived.Deep.AppendLies
namespace Go.Proofs.YtffcnonhhfhlhaaDoor.Ws
open Go.RowKit Go.Shelf Go.Sort
open Go.Proofs.YtffcnonhhfhlhaaDoor.It
open Go.Proofs.YtffcnonhhfhlhaaDoor.Rg (Kp Nu Sg cells)
set_option linter.unusedVariables false
/-- where the next word begins -/
def off : List (List UInt8) → Nat
  | [] => 0
  | x :: r => x.length + 1 + off r
theorem off_app : ∀ (a b : List (List UInt8)), off (a ++ b) = off a + off b
  | [], b => by simp [off]
  | x :: a, b => by simp only [List.cons_append, off, off_app a b]; omega
theorem off_spl (c : UInt8) : ∀ l, off (spl c l) = l.length + 1
  | [] => rfl
  | x :: r => by
    have ih := off_spl c r
    by_cases h : x = c
    · have e1 : spl c (x :: r) = [] :: spl c r := by simp only [spl, h, if_true]
      rw [e1]
      simp only [off, ih, List.length_nil, List.length_cons]
      omega
    · have e1 : spl c (x :: r) = (x :: ((spl c r).head?.getD [])) :: (spl c r).tail := by simp only [spl, h, if_false]
      rw [e1]
      cases hs : spl c r with
      | nil => exact absurd hs (spl_ne c r)
      | cons y t =>
        rw [hs] at ih
        simp only [off, List.length_cons] at ih ⊢
        simp only [List.head?_cons, Option.getD_some, List.tail_cons]
        omega
theorem off_le {c : UInt8} {l : List UInt8} {pre : List (List UInt8)} (h : pre <+: spl c l) : off pre ≤ l.length + 1 := by
  obtain ⟨t, e⟩ := h
  have := off_spl c l
  rw [← e, off_app] at this
  omega
theorem len_le_off : ∀ a : List (List UInt8), a.length ≤ off a
  | [] => Nat.le_refl _
  | x :: r => by simp only [List.length_cons, off]; have := len_le_off r; omega
/-- where each word begins -/
def begs (pre : List (List UInt8)) : List Value := (List.range pre.length).map (fun i => .int .i64 (off (pre.take i) : Int))
theorem begs_len (pre : List (List UInt8)) : (begs pre).length = pre.length := by simp [begs]
theorem begs_snoc (pre : List (List UInt8)) (x : List UInt8) : begs (pre ++ [x]) = begs pre ++ [.int .i64 (off pre : Int)] := by
  unfold begs
  rw [List.length_append, List.length_singleton, List.range_succ, List.map_append]
  congr 1
  · refine List.map_congr_left (fun i hi => ?_)
    have hi := List.mem_range.1 hi
    rw [List.take_append_of_le_length (by omega)]
  · simp
theorem begs_at {pre : List (List UInt8)} {i : Nat} (h : i < pre.length) : (begs pre)[i]? = some (.int .i64 (off (pre.take i) : Int)) := by
  unfold begs
  rw [List.getElem?_map, List.getElem?_range h]
  rfl
/-- the segments that the words say -/
def Pok (S : List Sg) (pre : List (List UInt8)) : Prop := S.map some = pre.map segF
theorem Pok.len {S : List Sg} {pre : List (List UInt8)} (h : Pok S pre) : S.length = pre.length := by
  have := congrArg List.length h
  simpa using this
theorem Pok.snoc {S : List Sg} {pre : List (List UInt8)} {x : List UInt8} {g : Sg} (h : Pok S pre) (hg : segF x = some g) : Pok (S ++ [g]) (pre ++ [x]) := by
  unfold Pok at *
  rw [List.map_append, List.map_append, h, List.map_singleton, List.map_singleton, hg]
theorem Pok.sgb {S : List Sg} {pre : List (List UInt8)} (h : Pok S pre) : ∀ s ∈ S, Rg.SgB s := fun s hs => by
  have : some s ∈ pre.map segF := by rw [← h]; exact List.mem_map.2 ⟨s, hs, rfl⟩
  obtain ⟨x, _, hx⟩ := List.mem_map.1 this
  exact segF_b hx
/-- what stands while the words are gone through -/
structure RI (w : World) (B : Nat) (pre : List (List UInt8)) (V : World) : Prop where
  ex : ∃ sv bv S, Pok S pre ∧ V.heap[w.heap.size + 1 + 1 + 1]? = some (.cells #[sv] 22 (0, 0)) ∧ V.heap[w.heap.size + 1 + 1 + 1 + 1]? = some (.cells #[bv] 115 (0, 0)) ∧ V.ownsRow B 26 3 sv S.length (cells S) ∧ V.ownsRow B 3 1 bv S.length (begs pre)
  b9 : V.heap[w.heap.size + 1 + 1 + 1 + 1 + 1]? = some (.cells #[.int .i64 (off pre : Int)] 3 (0, 0))
  b4 : V.heap[w.heap.size]? = some (.cells #[.pointer none] 27 (0, 0))
  b5 : V.heap[w.heap.size + 1]? = some (.cells #[.int .i64 0] 3 (0, 0))
  b6 : V.heap[w.heap.size + 1 + 1]? = some (.cells #[.int .i64 0] 42 (0, 0))
  bs : ∃ u, V.heap[w.heap.size + 6]? = some (.cells #[u] 9 (0, 0))
  be : Below w.heap.size w V
  sz : B ≤ V.heap.size
structure RX (w : World) (c : Code) (pre : List (List UInt8)) (V : World) : Prop where
  rt : c = .ret
  no : ∃ p x, pre = p ++ [x] ∧ (∀ y ∈ p, segF y ≠ none) ∧ segF x = none ∧ V.heap[w.heap.size + 1]? = some (.cells #[.int .i64 (off p : Int)] 3 (0, 0))
  b4 : V.heap[w.heap.size]? = some (.cells #[.pointer none] 27 (0, 0))
  b6 : V.heap[w.heap.size + 1 + 1]? = some (.cells #[.int .i64 64] 42 (0, 0))
  be : Below w.heap.size w V
theorem RI.own {w : World} {B : Nat} {C : Nat} (hs : w.heap.size ≤ C) : OwnFrom C (fun p V => RI w B p V) := fun p X Z row h hg hr => by
  obtain ⟨sv, bv, S, h1, h2, h3, h4, h5⟩ := h.ex
  obtain ⟨u, hu⟩ := h.bs
  have rk : ∀ {t e n : Nat} {v : Value} {xs : List Value}, X.ownsRow B t e v n xs → Z.ownsRow B t e v n xs := fun hr0 => Rg.own_keep hr0 (fun g e => hg.block g (Rg.own_lt hr0 e) (fun e2 => by
    obtain ⟨_, o, ho, hc⟩ := hr g e2.symm
    obtain ⟨c, e3⟩ := Rg.own_obj hr0 e
    rw [e3] at ho; cases ho; cases hc))
  have bk : ∀ {k : Nat} {c : Array Value} {t : TypeId} {m : Nat × Nat}, X.heap[k]? = some (.cells c t m) → Z.heap[k]? = some (.cells c t m) := fun hh => Rg.own_cells (β := Unit) _ _ _ _ _ () X Z row hh hg hr
  exact ⟨⟨sv, bv, S, h1, bk h2, bk h3, rk h4, rk h5⟩, bk h.b9, bk h.b4, bk h.b5, bk h.b6, ⟨u, bk hu⟩, ownFrom_below (β := Unit) (Nat.le_refl _) hs () X Z row h.be hg hr, Nat.le_trans h.sz hg.size⟩
theorem RX.own {w : World} {c : Code} {C : Nat} (hs : w.heap.size ≤ C) : OwnFrom C (fun p V => RX w c p V) := fun p X Z row h hg hr => by
  obtain ⟨q, x, h1, h2, h3, h4⟩ := h.no
  have bk : ∀ {k : Nat} {c : Array Value} {t : TypeId} {m : Nat × Nat}, X.heap[k]? = some (.cells c t m) → Z.heap[k]? = some (.cells c t m) := fun hh => Rg.own_cells (β := Unit) _ _ _ _ _ () X Z row hh hg hr
  exact ⟨h.rt, ⟨q, x, h1, h2, h3, bk h4⟩, bk h.b4, bk h.b6, ownFrom_below (β := Unit) (Nat.le_refl _) hs () X Z row h.be hg hr⟩
theorem RI.nu {w V V' : World} {B : Nat} {p : List (List UInt8)} (h : RI w B p V) (k : Kp Nu V V') : RI w B p V' := by
  obtain ⟨sv, bv, S, h1, h2, h3, h4, h5⟩ := h.ex
  obtain ⟨u, hu⟩ := h.bs
  have bk : ∀ {g : Nat} {c : Array Value} {t : TypeId}, V.heap[g]? = some (.cells c t (0, 0)) → V'.heap[g]? = some (.cells c t (0, 0)) := fun hh => (k.block _ (Rg.blk_lt hh) (fun e => e)).trans hh
  have rk : ∀ {t e n : Nat} {v : Value} {xs : List Value}, V.ownsRow B t e v n xs → V'.ownsRow B t e v n xs := fun hr => Rg.own_keep hr (fun g e => k.block g (Rg.own_lt hr e) (fun x => x))
  exact ⟨⟨sv, bv, S, h1, bk h2, bk h3, rk h4, rk h5⟩, bk h.b9, bk h.b4, bk h.b5, bk h.b6, ⟨u, bk hu⟩, h.be.trans (k.toBelow.mono h.be.size), Nat.le_trans h.sz k.size⟩
/-- the splitting's own box may turn -/
theorem RI.box {w V : World} {B : Nat} {p : List (List UInt8)} (h : RI w B p V) (v : Value) : RI w B p (V.setCell ⟨w.heap.size + 6, 0, none⟩ v) := by
  obtain ⟨sv, bv, S, h1, h2, h3, h4, h5⟩ := h.ex
  obtain ⟨u, hu⟩ := h.bs
  have k : Kp (fun q => q = w.heap.size + 6) V (V.setCell ⟨w.heap.size + 6, 0, none⟩ v) := (Rg.Kp.refl _ V).andSet _ _ (.inr rfl)
  have bk : ∀ {g : Nat} {c : Array Value} {t : TypeId}, V.heap[g]? = some (.cells c t (0, 0)) → g ≠ w.heap.size + 6 → (V.setCell ⟨w.heap.size + 6, 0, none⟩ v).heap[g]? = some (.cells c t (0, 0)) := fun hh hn => (k.block _ (Rg.blk_lt hh) hn).trans hh
  have rk : ∀ {t e n : Nat} {v' : Value} {xs : List Value}, V.ownsRow B t e v' n xs → t ≠ 9 → (V.setCell ⟨w.heap.size + 6, 0, none⟩ v).ownsRow B t e v' n xs := fun hr ht => Rg.own_keep hr (fun g e => k.block g (Rg.own_lt hr e) (fun e2 => by
    have e2 : g = w.heap.size + 6 := e2
    obtain ⟨c, hc⟩ := Rg.own_obj hr e
    rw [e2, hu] at hc; cases hc; exact ht rfl))
  exact ⟨⟨sv, bv, S, h1, bk h2 (by omega), bk h3 (by omega), rk h4 (by decide), rk h5 (by decide)⟩, bk h.b9 (by omega), bk h.b4 (by omega), bk h.b5 (by omega), bk h.b6 (by omega), ⟨v, Rg.set3 hu 0 v⟩, h.be.trans (k.below w.heap.size h.be.size (fun g e => by have e : g = w.heap.size + 6 := e; omega)), by have := h.sz; simp; exact this⟩
end Go.Proofs.YtffcnonhhfhlhaaDoor.Ws
namespace Go.Proofs.YtffcnonhhfhlhaaDoor.Ord
open Go
set_option linter.unusedVariables false
/-- an append, as one step of a region that draws -/
theorem wpOpIn_append {F : Fence} {n : Nat} {P : Program} {ops : Array Oper} {Q : Exit → Act → World → Prop} {i : Nat} {K : Act → World → Prop} {a : Act} {w w' : World} {o : Oper} (ho : ops[i]? = some o) (hg : o.guard = none) (s x : Operand) (t : TypeId)
    (hop : o.op = Op.call { callee := Callee.builtin Builtin.append, args := #[s, x], argTypes := #[t, t] }) (v u v' : Value) (hs : a.eval s = v) (hx : a.eval x = u) (hrun : (Builtin.append_ #[t, t] o.type #[v, u]).run P w = .ok v' w') (h : K (a.put o.dst v') w') :
    wpOpIn F n P ops Q i K a w := by
  refine wpOpIn_step ho (fun K' hK' => ?_)
  rw [if_pos (by simp [Region.wanted, hg])]
  unfold Oper.wpIn
  refine ⟨?_, ?_⟩
  · simp [Oper.about, hop, resolve, Target.leads, Sem.run_pure]
  · rw [Oper.semAt_plain F _ _ (by rw [hop]; intro c hc'; cases hc')]
    simp [execOp, hop, resolve, invoke, builtin, hs, hx, hrun, Result.andThen]
    exact hK' _ _ h
end Go.Proofs.YtffcnonhhfhlhaaDoor.Ord
namespace Go.Proofs.YtffcnonhhfhlhaaDoor.Ws
open Go.RowKit Go.Shelf Go.Sort Go.Maps
open Go.Proofs.YtffcnonhhfhlhaaDoor.It
open Go.Proofs.YtffcnonhhfhlhaaDoor.Rg (Kp Nu Sg cells cellsG)
set_option linter.unusedVariables false
theorem Pok.all {S : List Sg} {pre : List (List UInt8)} (h : Pok S pre) : ∀ y ∈ pre, segF y ≠ none := fun y hy e => by
  have : segF y ∈ pre.map segF := List.mem_map.2 ⟨y, hy, rfl⟩
  rw [← h, e] at this
  obtain ⟨x, _, hx⟩ := List.mem_map.1 this
  cases hx
/-- where the round stands ahead of the two appends -/
structure Rgn (w V : World) (B : Nat) (sa : Option Addr) (sc : Nat) (ba : Option Addr) (bc N bX : Nat) (S : List Sg) (pre : List (List UInt8)) (g : Sg) : Prop where
  c7 : V.heap[w.heap.size + 1 + 1 + 1]? = some (.cells #[.slice sa N sc] 22 (0, 0))
  c8 : V.heap[w.heap.size + 1 + 1 + 1 + 1]? = some (.cells #[.slice ba N bc] 115 (0, 0))
  c9 : V.heap[w.heap.size + 1 + 1 + 1 + 1 + 1]? = some (.cells #[.int .i64 (off pre : Int)] 3 (0, 0))
  cX : V.heap[bX]? = some (.cells #[.int .u64 g.lo, .int .u64 g.hi, .int .u8 g.h] 26 (0, 0))
  rs : V.ownsRow B 26 3 (.slice sa N sc) N (cells S)
  rb : V.ownsRow B 3 1 (.slice ba N bc) N (begs pre)
  xn : some bX ≠ (Value.slice sa N sc).ownBlock
  lo : w.heap.size + 9 ≤ B
  sz : B ≤ V.heap.size
  nb : N ≤ 1048577
section
variable {w V W : World} {B : Nat} {sa : Option Addr} {sc : Nat} {ba : Option Addr} {bc N bX : Nat} {S : List Sg} {pre : List (List UInt8)} {g : Sg}
def BsF (g : Sg) (Bs : Nat) (W : World) : Prop := W.heap[Bs]? = some (.cells #[.int .u64 g.lo, .int .u64 g.hi, .int .u8 g.h] 26 (0, 0))
def BiF (pre : List (List UInt8)) (Bi : Nat) (W : World) : Prop := W.heap[Bi]? = some (.cells #[.int .i64 (off pre : Int)] 3 (0, 0))
def O3 (V : World) (B : Nat) (sa : Option Addr) (sc N : Nat) (S : List Sg) (g : Sg) (va : Option Addr) (vc : Nat) (W : World) : Prop :=
  W.ownsRow B 26 3 (.slice va (N + 1) vc) (N + 1) (cells S ++ cellsG g) ∧ Kp (fun q => some q = (Value.slice sa N sc).ownBlock) V W
def Ph (V : World) (B : Nat) (sa : Option Addr) (sc N : Nat) (S : List Sg) (g : Sg) (l3 : Bool) (va : Option Addr) (vc : Nat) (W : World) : Prop := if l3 = true then O3 V B sa sc N S g va vc W else Kp Nu V W
def O7 (V : World) (B : Nat) (sa : Option Addr) (sc : Nat) (ba : Option Addr) (bc N : Nat) (S : List Sg) (pre : List (List UInt8)) (g : Sg) (va : Option Addr) (vc : Nat) (ua : Option Addr) (uc : Nat) (W : World) : Prop :=
  W.ownsRow B 26 3 (.slice va (N + 1) vc) (N + 1) (cells S ++ cellsG g) ∧ W.ownsRow B 3 1 (.slice ua (N + 1) uc) (N + 1) (begs pre ++ [.int .i64 (off pre : Int)]) ∧ Kp (fun q => some q = (Value.slice sa N sc).ownBlock ∨ some q = (Value.slice ba N bc).ownBlock) V W
theorem info3r : (Tryd.prog.info? 3).map (fun i => (i.zero, i.size, i.bytes)) = some (some (.int .i64 0), 1, 8) := by kernel_rfl
theorem info26r : (Tryd.prog.info? 26).map (fun i => (i.zero, i.size, i.bytes)) = some (some (.agg #[.int .u64 0, .int .u64 0, .int .u8 0]), 3, 24) := by kernel_rfl
/-- blocks below the rows stand -/
theorem Rgn.low (h : Rgn w V B sa sc ba bc N bX S pre g) {T : Nat → Prop} (hT : ∀ q, T q → some q = (Value.slice sa N sc).ownBlock ∨ some q = (Value.slice ba N bc).ownBlock) (k : Kp T V W) {q : Nat} {c : Array Value} {t : TypeId} (hq : V.heap[q]? = some (.cells c t (0, 0))) (hlt : q < w.heap.size + 9) : W.heap[q]? = some (.cells c t (0, 0)) :=
  (k.block q (Rg.blk_lt hq) (fun e => by
    rcases hT q e with e | e
    · have := (h.rs.lt q e.symm).1; have := h.lo; omega
    · have := (h.rb.lt q e.symm).1; have := h.lo; omega)).trans hq
theorem Ph.kp (h : Rgn w V B sa sc ba bc N bX S pre g) {l3 : Bool} {va : Option Addr} {vc : Nat} (hp : Ph V B sa sc N S g l3 va vc W) : Kp (fun q => some q = (Value.slice sa N sc).ownBlock ∨ some q = (Value.slice ba N bc).ownBlock) V W := by
  unfold Ph at hp
  split at hp
  · exact hp.2.mono (fun _ _ e => .inl e)
  · exact hp.mono (fun _ _ e => e.elim)
theorem Ph.c89 (h : Rgn w V B sa sc ba bc N bX S pre g) {l3 : Bool} {va : Option Addr} {vc : Nat} (hp : Ph V B sa sc N S g l3 va vc W) : W.cell? ⟨w.heap.size + 1 + 1 + 1 + 1, 0, none⟩ = some (.slice ba N bc) ∧ W.cell? ⟨w.heap.size + 1 + 1 + 1 + 1 + 1, 0, none⟩ = some (.int .i64 (off pre : Int)) :=
  ⟨Rg.cell1 (h.low (fun _ e => e) (Ph.kp h hp) h.c8 (by omega)), Rg.cell1 (h.low (fun _ e => e) (Ph.kp h hp) h.c9 (by omega))⟩
theorem Ph.alloc {l3 : Bool} {va : Option Addr} {vc : Nat} (hp : Ph V B sa sc N S g l3 va vc W) (o : Obj) : Ph V B sa sc N S g l3 va vc (W.alloc o) := by
  unfold Ph at hp ⊢
  split at hp
  · rename_i hl
    rw [if_pos hl]
    exact ⟨hp.1.alloc _, hp.2.andNu (Rg.Kp.alloc W o Nu)⟩
  · rename_i hl
    rw [if_neg hl]
    exact hp.andNu (Rg.Kp.alloc W o Nu)
theorem Rgn.c7X (h : Rgn w V B sa sc ba bc N bX S pre g) (k : Kp Nu V W) : W.cell? ⟨w.heap.size + 1 + 1 + 1, 0, none⟩ = some (.slice sa N sc) ∧ W.cell? ⟨bX, 0, none⟩ = some (.int .u64 g.lo) ∧ W.cell? ⟨bX, 1, none⟩ = some (.int .u64 g.hi) ∧ W.cell? ⟨bX, 2, none⟩ = some (.int .u8 g.h) := by
  obtain ⟨x0, x1, x2⟩ := Rg.cell3 ((k.block bX (Rg.blk_lt h.cX) (fun e => e)).trans h.cX)
  exact ⟨Rg.cell1 ((k.block _ (Rg.blk_lt h.c7) (fun e => e)).trans h.c7), x0, x1, x2⟩
/-- the first append -/
theorem Rgn.ap3 (h : Rgn w V B sa sc ba bc N bX S pre g) (k : Kp Nu V W) {Bs : Nat} (hb : BsF g Bs W) : ∃ va vc W2, (Builtin.append_ #[22, 22] 22 #[.slice sa N sc, .slice (some ⟨Bs, 0, none⟩) 1 1]).run Tryd.prog W = .ok (.slice va (N + 1) vc) W2 ∧ O3 V B sa sc N S g va vc W2 ∧ ∀ Bi, BiF pre Bi W → BiF pre Bi W2 := by
  obtain ⟨i0, hiT, hz0, hz1, hz2⟩ := info_parts info26r
  have hr : W.ownsRow B 26 3 (.slice sa N sc) N (cells S) := Rg.own_keep h.rs (fun q e => k.block q (Rg.own_lt h.rs e) (fun x => x))
  have hB : B ≤ W.heap.size := Nat.le_trans h.sz k.size
  have hn := h.nb
  obtain ⟨v', w', hrun, h2, h3, _, h5⟩ := run_append_own_at (P := Tryd.prog) W B 22 22 26 i0 _ 3 24 Tryd.underlying22 hiT hz0 hz1 hz2 rfl (by decide) (.slice sa N sc) N (cells S) hr ⟨Bs, 0, none⟩ 1 1 (cellsG g) rfl (World.news_of_block hb) (by simp [cellsG, Value.oneCell']) (by unfold maxLen; omega) (by omega) hB
  obtain ⟨va, vc, rfl⟩ := Rg.own_slice h2
  refine ⟨va, vc, w', hrun, ⟨h2, (k.mono (fun _ _ e => e.elim)).trans (Rg.Kp.of_grown h3) (fun _ _ e => e)⟩, fun Bi hBi => ?_⟩
  refine ((Rg.Kp.of_grown h3).block Bi (Rg.blk_lt hBi) (fun e => ?_)).trans hBi
  obtain ⟨c, hc⟩ := Rg.own_obj hr e.symm
  unfold BiF at hBi
  rw [hBi] at hc; cases hc
/-- the second append -/
theorem Rgn.ap7 (h : Rgn w V B sa sc ba bc N bX S pre g) {va : Option Addr} {vc : Nat} (hO : O3 V B sa sc N S g va vc W) {Bi : Nat} (hb : BiF pre Bi W) : ∃ ua uc W2, (Builtin.append_ #[115, 115] 115 #[.slice ba N bc, .slice (some ⟨Bi, 0, none⟩) 1 1]).run Tryd.prog W = .ok (.slice ua (N + 1) uc) W2 ∧ O7 V B sa sc ba bc N S pre g va vc ua uc W2 := by
  obtain ⟨i0, hiT, hz0, hz1, hz2⟩ := info_parts info3r
  have nb : ∀ q, (Value.slice ba N bc).ownBlock = some q → ¬ some q = (Value.slice sa N sc).ownBlock := fun q e e2 => by
    obtain ⟨c, hc⟩ := Rg.own_obj h.rb e
    obtain ⟨c', hc'⟩ := Rg.own_obj h.rs e2.symm
    rw [hc] at hc'; cases hc'
  have hr : W.ownsRow B 3 1 (.slice ba N bc) N (begs pre) := Rg.own_keep h.rb (fun q e => hO.2.block q (Rg.own_lt h.rb e) (nb q e))
  have hB : B ≤ W.heap.size := Nat.le_trans h.sz hO.2.size
  have hn := h.nb
  obtain ⟨v', w', hrun, h2, h3, _, h5⟩ := run_append_own_at (P := Tryd.prog) W B 115 115 3 i0 _ 1 8 Tryd.underlying115 hiT hz0 hz1 hz2 rfl (by decide) (.slice ba N bc) N (begs pre) hr ⟨Bi, 0, none⟩ 1 1 [.int .i64 (off pre : Int)] rfl (World.news_of_block hb) (by simp [Value.oneCell']) (by unfold maxLen; omega) (by omega) hB
  obtain ⟨ua, uc, rfl⟩ := Rg.own_slice h2
  refine ⟨ua, uc, w', hrun, ?_, h2, (hO.2.mono (fun _ _ e => .inl e)).trans (Rg.Kp.of_grown h3) (fun _ _ e => .inr e)⟩
  refine Rg.own_keep hO.1 (fun q e => (Rg.Kp.of_grown h3).block q (Rg.own_lt hO.1 e) (fun e2 => ?_))
  obtain ⟨c, hc⟩ := Rg.own_obj hr e2.symm
  obtain ⟨c', hc'⟩ := Rg.own_obj hO.1 e
  rw [hc] at hc'; cases hc'
theorem O7.box (h : Rgn w V B sa sc ba bc N bX S pre g) {va : Option Addr} {vc : Nat} {ua : Option Addr} {uc : Nat} (hO : O7 V B sa sc ba bc N S pre g va vc ua uc W) : W.heap[w.heap.size + 1 + 1 + 1]? = some (.cells #[.slice sa N sc] 22 (0, 0)) ∧ W.heap[w.heap.size + 1 + 1 + 1 + 1]? = some (.cells #[.slice ba N bc] 115 (0, 0)) ∧ W.heap[w.heap.size + 1 + 1 + 1 + 1 + 1]? = some (.cells #[.int .i64 (off pre : Int)] 3 (0, 0)) :=
  ⟨h.low (fun _ e => e) hO.2.2 h.c7 (by omega), h.low (fun _ e => e) hO.2.2 h.c8 (by omega), h.low (fun _ e => e) hO.2.2 h.c9 (by omega)⟩
def O8 (w V : World) (B : Nat) (sa : Option Addr) (sc : Nat) (ba : Option Addr) (bc N : Nat) (S : List Sg) (pre : List (List UInt8)) (g : Sg) (va : Option Addr) (vc : Nat) (ua : Option Addr) (uc : Nat) (W : World) : Prop :=
  ∃ W7, O7 V B sa sc ba bc N S pre g va vc ua uc W7 ∧ W = W7.setCell ⟨w.heap.size + 1 + 1 + 1, 0, none⟩ (.slice va (N + 1) vc)
def O9 (w V : World) (B : Nat) (sa : Option Addr) (sc : Nat) (ba : Option Addr) (bc N : Nat) (S : List Sg) (pre : List (List UInt8)) (g : Sg) (va : Option Addr) (vc : Nat) (ua : Option Addr) (uc : Nat) (W : World) : Prop :=
  ∃ W7, O7 V B sa sc ba bc N S pre g va vc ua uc W7 ∧ W = (W7.setCell ⟨w.heap.size + 1 + 1 + 1, 0, none⟩ (.slice va (N + 1) vc)).setCell ⟨w.heap.size + 1 + 1 + 1 + 1, 0, none⟩ (.slice ua (N + 1) uc)
theorem O8.c8 (h : Rgn w V B sa sc ba bc N bX S pre g) {va : Option Addr} {vc : Nat} {ua : Option Addr} {uc : Nat} (hO : O8 w V B sa sc ba bc N S pre g va vc ua uc W) : W.heap[w.heap.size + 1 + 1 + 1 + 1]? = some (.cells #[.slice ba N bc] 115 (0, 0)) := by
  obtain ⟨W7, h7, rfl⟩ := hO
  exact (set_other _ _ _ _ (by omega)).trans (O7.box h h7).2.1
theorem O9.c9 (h : Rgn w V B sa sc ba bc N bX S pre g) {va : Option Addr} {vc : Nat} {ua : Option Addr} {uc : Nat} (hO : O9 w V B sa sc ba bc N S pre g va vc ua uc W) : W.heap[w.heap.size + 1 + 1 + 1 + 1 + 1]? = some (.cells #[.int .i64 (off pre : Int)] 3 (0, 0)) := by
  obtain ⟨W7, h7, rfl⟩ := hO
  exact (set_other _ _ _ _ (by omega)).trans ((set_other _ _ _ _ (by omega)).trans (O7.box h h7).2.2)
end
theorem ph_f {V W : World} {B : Nat} {sa : Option Addr} {sc N : Nat} {S : List Sg} {g : Sg} {va : Option Addr} {vc : Nat} (h : Ph V B sa sc N S g false va vc W) : Kp Nu V W := by
  unfold Ph at h
  rwa [if_neg (by simp)] at h
theorem ph_t {V W : World} {B : Nat} {sa : Option Addr} {sc N : Nat} {S : List Sg} {g : Sg} {va : Option Addr} {vc : Nat} (h : Ph V B sa sc N S g true va vc W) : O3 V B sa sc N S g va vc W := by
  unfold Ph at h
  rwa [if_pos rfl] at h
theorem ph_mk {V W : World} {B : Nat} {sa : Option Addr} {sc N : Nat} {S : List Sg} {g : Sg} {va : Option Addr} {vc : Nat} (h : O3 V B sa sc N S g va vc W) : Ph V B sa sc N S g true va vc W := by
  unfold Ph
  rwa [if_pos rfl]
theorem BsF.alloc {g : Sg} {Bs : Nat} {W : World} (h : BsF g Bs W) (o : Obj) : BsF g Bs (W.alloc o) := (Below.heap_alloc W o Bs (Rg.blk_lt h)).trans h
theorem BiF.alloc {pre : List (List UInt8)} {Bi : Nat} {W : World} (h : BiF pre Bi W) (o : Obj) : BiF pre Bi (W.alloc o) := (Below.heap_alloc W o Bi (Rg.blk_lt h)).trans h
theorem lt_cases10 {i : Nat} (h : i < 10) : i = 0 ∨ i = 1 ∨ i = 2 ∨ i = 3 ∨ i = 4 ∨ i = 5 ∨ i = 6 ∨ i = 7 ∨ i = 8 ∨ i = 9 := by omega
end Go.Proofs.YtffcnonhhfhlhaaDoor.Ws
namespace Go.Proofs.YtffcnonhhfhlhaaDoor.Ws
open Go.RowKit Go.Shelf Go.Sort
open Go.Proofs.YtffcnonhhfhlhaaDoor.It
open Go.Proofs.YtffcnonhhfhlhaaDoor.Rg (Kp Nu Sg cells cellsG)
set_option linter.unusedVariables false
theorem cells_snoc (S : List Sg) (g : Sg) : cells (S ++ [g]) = cells S ++ cellsG g := by simp [cells]
theorem ri_step {w V V2 W : World} {B C : Nat} {sa : Option Addr} {sc : Nat} {ba : Option Addr} {bc N bX : Nat} {S : List Sg} {pre : List (List UInt8)} {g : Sg} {x : List UInt8} {va : Option Addr} {vc : Nat} {ua : Option Addr} {uc : Nat} (hI : RI w B pre V) (k2 : Kp Nu V V2) (h : Rgn w V2 B sa sc ba bc N bX S pre g) (hP : Pok S pre) (eN : S.length = N) (hg : segF x = some g) (hO : O9 w V2 B sa sc ba bc N S pre g va vc ua uc W) :
    KeepsFrom C V (W.setCell ⟨w.heap.size + 1 + 1 + 1 + 1 + 1, 0, none⟩ (.int .i64 (off (pre ++ [x]) : Int))) ∧ Kc (fun k _ => k = w.heap.size + 6 + 1 ∨ k = w.heap.size + 6 ∨ k = w.heap.size + 6 + 2) V (W.setCell ⟨w.heap.size + 1 + 1 + 1 + 1 + 1, 0, none⟩ (.int .i64 (off (pre ++ [x]) : Int))) ∧ RI w B (pre ++ [x]) (W.setCell ⟨w.heap.size + 1 + 1 + 1 + 1 + 1, 0, none⟩ (.int .i64 (off (pre ++ [x]) : Int))) := by
  obtain ⟨W7, h7, rfl⟩ := hO
  obtain ⟨z7, z8, z9⟩ := O7.box h h7
  have hlo := h.lo
  obtain ⟨W', hW'⟩ : ∃ W', ((W7.setCell ⟨w.heap.size + 1 + 1 + 1, 0, none⟩ (.slice va (N + 1) vc)).setCell ⟨w.heap.size + 1 + 1 + 1 + 1, 0, none⟩ (.slice ua (N + 1) uc)).setCell ⟨w.heap.size + 1 + 1 + 1 + 1 + 1, 0, none⟩ (.int .i64 (off (pre ++ [x]) : Int)) = W' := ⟨_, rfl⟩
  have k3 : Kp (fun q => q = w.heap.size + 1 + 1 + 1 ∨ q = w.heap.size + 1 + 1 + 1 + 1 ∨ q = w.heap.size + 1 + 1 + 1 + 1 + 1) W7 W' := by
    rw [← hW']
    exact (((Rg.Kp.refl _ W7).andSet _ _ (.inr (.inl rfl))).andSet _ _ (.inr (.inr (.inl rfl)))).andSet _ _ (.inr (.inr (.inr rfl)))
  have m7 := Rg.set3 z7 0 (.slice va (N + 1) vc)
  have m8 := Rg.set3 ((set_other W7 (w.heap.size + 1 + 1 + 1) (.slice va (N + 1) vc) (w.heap.size + 1 + 1 + 1 + 1) (by omega)).trans z8) 0 (.slice ua (N + 1) uc)
  have m9 := Rg.set3 ((set_other (W7.setCell ⟨w.heap.size + 1 + 1 + 1, 0, none⟩ (.slice va (N + 1) vc)) (w.heap.size + 1 + 1 + 1 + 1) (.slice ua (N + 1) uc) (w.heap.size + 1 + 1 + 1 + 1 + 1) (by omega)).trans ((set_other W7 (w.heap.size + 1 + 1 + 1) (.slice va (N + 1) vc) (w.heap.size + 1 + 1 + 1 + 1 + 1) (by omega)).trans z9)) 0 (.int .i64 (off (pre ++ [x]) : Int))
  have b7 : W'.heap[w.heap.size + 1 + 1 + 1]? = some (.cells #[.slice va (N + 1) vc] 22 (0, 0)) := by
    rw [← hW']
    exact (set_other _ _ _ _ (by omega)).trans ((set_other _ _ _ _ (by omega)).trans m7)
  have b8 : W'.heap[w.heap.size + 1 + 1 + 1 + 1]? = some (.cells #[.slice ua (N + 1) uc] 115 (0, 0)) := by
    rw [← hW']
    exact (set_other _ _ _ _ (by omega)).trans m8
  have b9 : W'.heap[w.heap.size + 1 + 1 + 1 + 1 + 1]? = some (.cells #[.int .i64 (off (pre ++ [x]) : Int)] 3 (0, 0)) := by
    rw [← hW']
    exact m9
  rw [hW']
  clear m7 m8 m9 hW'
  have sS : Kp (fun q => (some q = (Value.slice sa N sc).ownBlock ∨ some q = (Value.slice ba N bc).ownBlock) ∨ (q = w.heap.size + 1 + 1 + 1 ∨ q = w.heap.size + 1 + 1 + 1 + 1 ∨ q = w.heap.size + 1 + 1 + 1 + 1 + 1)) V2 W' := (h7.2.2.mono (fun _ _ e => .inl e)).trans k3 (fun _ _ e => .inr e)
  have sV : Kp (fun q => (some q = (Value.slice sa N sc).ownBlock ∨ some q = (Value.slice ba N bc).ownBlock) ∨ (q = w.heap.size + 1 + 1 + 1 ∨ q = w.heap.size + 1 + 1 + 1 + 1 ∨ q = w.heap.size + 1 + 1 + 1 + 1 + 1)) V W' := (k2.mono (fun _ _ e => e.elim)).trans sS (fun _ _ e => e)
  obtain ⟨sv, bv, S0, _, t7, t8, tS, tB⟩ := hI.ex
  obtain ⟨u, hu⟩ := hI.bs
  have e7 : sv = .slice sa N sc := by
    have := (k2.block _ (Rg.blk_lt t7) (fun e => e)).trans t7
    rw [h.c7] at this; cases this; rfl
  have e8 : bv = .slice ba N bc := by
    have := (k2.block _ (Rg.blk_lt t8) (fun e => e)).trans t8
    rw [h.c8] at this; cases this; rfl
  rw [e7] at tS
  rw [e8] at tB
  have low : ∀ {q : Nat} {c : Array Value} {t : TypeId}, V.heap[q]? = some (.cells c t (0, 0)) → q < w.heap.size + 9 → q ≠ w.heap.size + 1 + 1 + 1 → q ≠ w.heap.size + 1 + 1 + 1 + 1 → q ≠ w.heap.size + 1 + 1 + 1 + 1 + 1 → W'.heap[q]? = some (.cells c t (0, 0)) := fun {q c t} hq hlt n1 n2 n3 =>
    (sV.block q (Rg.blk_lt hq) (fun e => by
      rcases e with (e | e) | (e | e | e)
      · have := (tS.lt q e.symm).1; omega
      · have := (tB.lt q e.symm).1; omega
      · exact n1 e
      · exact n2 e
      · exact n3 e)).trans hq
  have rk : ∀ {t e n : Nat} {v : Value} {xs : List Value}, W7.ownsRow B t e v n xs → W'.ownsRow B t e v n xs := fun hr => Rg.own_keep hr (fun q e => k3.block q (Rg.own_lt hr e) (fun e2 => by
    have := (hr.lt q e).1
    rcases e2 with e2 | e2 | e2 <;> omega))
  have hl : (S ++ [g]).length = N + 1 := by rw [List.length_append, eN]; rfl
  refine ⟨Rg.kf_cells sV (fun q hq => ?_), Rg.kc_cells sV (fun q c t m hq e hK => ?_), ?_⟩
  · rcases hq with (e | e) | (rfl | rfl | rfl)
    · obtain ⟨c, hc⟩ := Rg.own_obj tS e.symm; exact ⟨_, _, _, hc⟩
    · obtain ⟨c, hc⟩ := Rg.own_obj tB e.symm; exact ⟨_, _, _, hc⟩
    · exact ⟨_, _, _, t7⟩
    · exact ⟨_, _, _, t8⟩
    · exact ⟨_, _, _, hI.b9⟩
  · have hK : q = w.heap.size + 6 + 1 ∨ q = w.heap.size + 6 ∨ q = w.heap.size + 6 + 2 := hK
    rcases hq with (e2 | e2) | (e2 | e2 | e2)
    · have := (tS.lt q e2.symm).1; omega
    · have := (tB.lt q e2.symm).1; omega
    · omega
    · omega
    · omega
  · refine ⟨⟨_, _, S ++ [g], hP.snoc hg, b7, b8, ?_, ?_⟩, b9, low hI.b4 (by omega) (by omega) (by omega) (by omega), low hI.b5 (by omega) (by omega) (by omega) (by omega), low hI.b6 (by omega) (by omega) (by omega) (by omega), ⟨u, low hu (by omega) (by omega) (by omega) (by omega)⟩, hI.be.trans (sV.below w.heap.size hI.be.size (fun q e => ?_)), Nat.le_trans hI.sz sV.size⟩
    · rw [hl, cells_snoc]; exact rk h7.1
    · rw [hl, begs_snoc]; exact rk h7.2.1
    · rcases e with (e | e) | (e | e | e)
      · have := (tS.lt q e.symm).1; omega
      · have := (tB.lt q e.symm).1; omega
      · omega
      · omega
      · omega
theorem rx_mk {w V V2 : World} {B C : Nat} {pre : List (List UInt8)} {x : List UInt8} (hI : RI w B pre V) (k2 : Kp Nu V V2) (hno : segF x = none) :
    KeepsFrom C V (((V2.setCell ⟨w.heap.size, 0, none⟩ (.pointer none)).setCell ⟨w.heap.size + 1, 0, none⟩ (.int .i64 (off pre : Int))).setCell ⟨w.heap.size + 1 + 1, 0, none⟩ (.int .i64 64)) ∧ RX w .ret (pre ++ [x]) (((V2.setCell ⟨w.heap.size, 0, none⟩ (.pointer none)).setCell ⟨w.heap.size + 1, 0, none⟩ (.int .i64 (off pre : Int))).setCell ⟨w.heap.size + 1 + 1, 0, none⟩ (.int .i64 64)) := by
  have h2 := hI.nu k2
  have sV : Kp (fun q => q = w.heap.size ∨ q = w.heap.size + 1 ∨ q = w.heap.size + 1 + 1) V (((V2.setCell ⟨w.heap.size, 0, none⟩ (.pointer none)).setCell ⟨w.heap.size + 1, 0, none⟩ (.int .i64 (off pre : Int))).setCell ⟨w.heap.size + 1 + 1, 0, none⟩ (.int .i64 64)) :=
    (((k2.mono (fun _ _ e => e.elim)).andSet _ _ (.inr (.inl rfl))).andSet _ _ (.inr (.inr (.inl rfl)))).andSet _ _ (.inr (.inr (.inr rfl)))
  have m4 := Rg.set3 h2.b4 0 (.pointer none)
  have m5 := Rg.set3 ((set_other V2 (w.heap.size) (.pointer none) (w.heap.size + 1) (by omega)).trans h2.b5) 0 (.int .i64 (off pre : Int))
  have m6 := Rg.set3 ((set_other (V2.setCell ⟨w.heap.size, 0, none⟩ (.pointer none)) (w.heap.size + 1) (.int .i64 (off pre : Int)) (w.heap.size + 1 + 1) (by omega)).trans ((set_other V2 (w.heap.size) (.pointer none) (w.heap.size + 1 + 1) (by omega)).trans h2.b6)) 0 (.int .i64 64)
  obtain ⟨sv, bv, S, hP, _⟩ := hI.ex
  refine ⟨Rg.kf_cells sV (fun q hq => ?_), rfl, ⟨pre, x, rfl, hP.all, hno, ?_⟩, ?_, m6, hI.be.trans (sV.below w.heap.size hI.be.size (fun q e => ?_))⟩
  · rcases hq with rfl | rfl | rfl
    · exact ⟨_, _, _, hI.b4⟩
    · exact ⟨_, _, _, hI.b5⟩
    · exact ⟨_, _, _, hI.b6⟩
  · exact (set_other _ _ _ _ (by omega)).trans m5
  · exact (set_other _ _ _ _ (by omega)).trans ((set_other _ _ _ _ (by omega)).trans m4)
  · rcases e with e | e | e <;> omega
theorem lrs_keep {V V3 W : World} {lim : Int} {S : List Sg} {p : Value} {i c : Int} {T : Nat → Prop} (h : Rg.Lrs V V3 lim S p i c) (k : Kp T V3 W) (hT : ∀ q, T q → q < V.heap.size) : Rg.Lrs V W lim S p i c := by
  rcases h with h | h | ⟨h1, h2, h3, h4, h5, b, v, h6, t⟩
  · exact .inl h
  · exact .inr (.inl h)
  · refine .inr (.inr ⟨h1, h2, h3, h4, h5, b, v, h6, ?_⟩)
    exact ⟨(k.block b (Rg.blk_lt t.blk) (fun e => by have := hT b e; have := t.low; omega)).trans t.blk, t.low, Rg.own_keep t.own (fun q e => k.block q (Rg.own_lt t.own e) (fun e2 => by have := hT q e2; have := (t.own.lt q e).1; omega)), t.tab, t.len, t.lim1⟩
theorem lrs_cases {V V3 : World} {lim : Int} {S : List Sg} {p : Value} {i c : Int} (h : Rg.Lrs V V3 lim S p i c) : (c ≠ 0 ∧ p = .pointer none ∧ ((∃ k : Nat, k < S.length ∧ i = (k : Int)) ∨ i = (S.length : Int))) ∨ (c = 0 ∧ ∃ b, p = .pointer (some ⟨b, 0, none⟩)) := by
  rcases h with ⟨h1, k, s, _, h3, _, h5, h6⟩ | ⟨h1, _, h3, h4⟩ | ⟨h1, h2, h3, h4, h5, b, v, h6, t⟩
  · exact .inl ⟨h5, h1, .inl ⟨k, (List.getElem?_eq_some_iff.1 h3).1, h6⟩⟩
  · refine .inl ⟨?_, h1, .inr h3⟩
    rcases h4 with ⟨h, _⟩ | ⟨h, _⟩ <;> rw [h] <;> decide
  · exact .inr ⟨h1, b, h6⟩
/-- the three results -/
theorem three_set {w V : World} {x y z : Value} {t4 t5 t6 : TypeId} (h4 : V.heap[w.heap.size]? = some (.cells #[x] t4 (0, 0))) (h5 : V.heap[w.heap.size + 1]? = some (.cells #[y] t5 (0, 0))) (h6 : V.heap[w.heap.size + 1 + 1]? = some (.cells #[z] t6 (0, 0))) (a b c : Value) :
    let W := ((V.setCell ⟨w.heap.size, 0, none⟩ a).setCell ⟨w.heap.size + 1, 0, none⟩ b).setCell ⟨w.heap.size + 1 + 1, 0, none⟩ c
    W.heap[w.heap.size]? = some (.cells #[a] t4 (0, 0)) ∧ W.heap[w.heap.size + 1]? = some (.cells #[b] t5 (0, 0)) ∧ W.heap[w.heap.size + 1 + 1]? = some (.cells #[c] t6 (0, 0)) ∧ Kp (fun q => q = w.heap.size ∨ q = w.heap.size + 1 ∨ q = w.heap.size + 1 + 1) V W := by
  intro W
  have m4 := Rg.set3 h4 0 a
  have m5 := Rg.set3 ((set_other V (w.heap.size) a (w.heap.size + 1) (by omega)).trans h5) 0 b
  have m6 := Rg.set3 ((set_other (V.setCell ⟨w.heap.size, 0, none⟩ a) (w.heap.size + 1) b (w.heap.size + 1 + 1) (by omega)).trans ((set_other V (w.heap.size) a (w.heap.size + 1 + 1) (by omega)).trans h6)) 0 c
  exact ⟨(set_other _ _ _ _ (by omega)).trans ((set_other _ _ _ _ (by omega)).trans m4), (set_other _ _ _ _ (by omega)).trans m5, m6, (((Rg.Kp.refl _ V).andSet _ _ (.inr (.inl rfl))).andSet _ _ (.inr (.inr (.inl rfl)))).andSet _ _ (.inr (.inr (.inr rfl)))⟩
theorem kp_put {V : World} {D : Nat} (o : Obj) {T : Nat → Prop} (hT : T D) : Kp T V (V.putObj D o) := ⟨rfl, rfl, rfl, by simp, fun k hk hs => World.putObj_heap_other (fun e => by subst e; exact hs hT)⟩
theorem own_at {w : World} {B t n cap : Nat} {ad : Option Addr} {xs : List Value} (h : w.ownsRow B t 1 (.slice ad n cap) n xs) {k : Nat} {u : Value} (hk : xs[k]? = some u) : ∃ g, ad = some ⟨g, 0, none⟩ ∧ w.cell? ⟨g, k, none⟩ = some u ∧ B ≤ g := by
  have hlt := (List.getElem?_eq_some_iff.1 hk).1
  have hl := h.1
  rcases h.2 with ⟨_, h2⟩ | ⟨g, cap', cur, e1, hB, h3, _, _, _, h7⟩
  · omega
  · cases e1
    refine ⟨g, rfl, ?_, hB⟩
    rw [← h7, List.getElem?_take] at hk
    split at hk
    · simp only [World.cell?, h3]
      rw [← hk]
      simp
    · cases hk
theorem rx_drew {w V W : World} {C : Nat} {c : Code} {p : List (List UInt8)} (h : KeepsFrom C V W ∧ RX w c p W) : KeepsFrom C V W.drew ∧ RX w c p W.drew :=
  ⟨⟨h.1.size, h.1.same⟩, h.2.rt, h.2.no, h.2.b4, h.2.b6, h.2.be.trans ((Rg.Kp.refl Nu W).drew.toBelow.mono h.2.be.size)⟩
end Go.Proofs.YtffcnonhhfhlhaaDoor.Ws
