import Derived.Test.YtffcnonhhfhlhaaDoorWsF
import Derived.Test.YtffcnonhhfhlhaaDoorRgG0
import Derived.OwnWalkIn
import Derived.Deep.AppendLies
namespace Go.Proofs.YtffcnonhhfhlhaaDoor.Ord
open Go
set_option linter.unusedVariables false
/-- an append, as one step of a region that draws -/
theorem wpOpIn_append {F : Fence} {n : Nat} {P : Program} {ops : Array Oper} {Q : Exit → Act → World → Prop} {i : Nat} {K : Act → World → Prop} {a : Act} {w w' : World} {o : Oper} (ho : ops[i]? = some o) (hg : o.guard = none) (s x : Operand) (t : TypeId)
    (hop : o.op = Op.call { callee := Callee.builtin Builtin.append, args := #[s, x], argTypes := #[t, t] }) (v u v' : Value) (hs : a.eval s = v) (hx : a.eval x = u) (hrun : (Builtin.append_ #[t, t] o.type #[v, u]).run P w = .ok v' w') (h : K (a.put o.dst v') w') :
    wpOpIn F n P ops Q i K a w := by
  refine wpOpIn_step ho (fun K' hK' => ?_)
  rw [if_pos (by simp [Region.wanted, hg])]
  unfold Oper.wpIn
  refine ⟨?_, ?_⟩
  · simp [Oper.about, hop, resolve, Target.leads, Sem.run_pure]
  · rw [Oper.semAt_plain F _ _ (by rw [hop]; intro c hc'; cases hc')]
    simp [execOp, hop, resolve, invoke, builtin, hs, hx, hrun, Result.andThen]
    exact hK' _ _ h
end Go.Proofs.YtffcnonhhfhlhaaDoor.Ord
namespace Go.Proofs.YtffcnonhhfhlhaaDoor.Ws
open Go.RowKit Go.Shelf Go.Sort Go.Maps
open Go.Proofs.YtffcnonhhfhlhaaDoor.It
open Go.Proofs.YtffcnonhhfhlhaaDoor.Rg (Kp Nu Sg cells cellsG)
set_option linter.unusedVariables false
theorem Pok.all {S : List Sg} {pre : List (List UInt8)} (h : Pok S pre) : ∀ y ∈ pre, segF y ≠ none := fun y hy e => by
  have : segF y ∈ pre.map segF := List.mem_map.2 ⟨y, hy, rfl⟩
  rw [← h, e] at this
  obtain ⟨x, _, hx⟩ := List.mem_map.1 this
  cases hx
/-- where the round stands ahead of the two appends -/
structure Rgn (w V : World) (B : Nat) (sa : Option Addr) (sc : Nat) (ba : Option Addr) (bc N bX : Nat) (S : List Sg) (pre : List (List UInt8)) (g : Sg) : Prop where
  c7 : V.heap[w.heap.size + 1 + 1 + 1]? = some (.cells #[.slice sa N sc] 22 (0, 0))
  c8 : V.heap[w.heap.size + 1 + 1 + 1 + 1]? = some (.cells #[.slice ba N bc] 115 (0, 0))
  c9 : V.heap[w.heap.size + 1 + 1 + 1 + 1 + 1]? = some (.cells #[.int .i64 (off pre : Int)] 3 (0, 0))
  cX : V.heap[bX]? = some (.cells #[.int .u64 g.lo, .int .u64 g.hi, .int .u8 g.h] 26 (0, 0))
  rs : V.ownsRow B 26 3 (.slice sa N sc) N (cells S)
  rb : V.ownsRow B 3 1 (.slice ba N bc) N (begs pre)
  xn : some bX ≠ (Value.slice sa N sc).ownBlock
  lo : w.heap.size + 9 ≤ B
  sz : B ≤ V.heap.size
  nb : N ≤ 1048577
section
variable {w V W : World} {B : Nat} {sa : Option Addr} {sc : Nat} {ba : Option Addr} {bc N bX : Nat} {S : List Sg} {pre : List (List UInt8)} {g : Sg}
def BsF (g : Sg) (Bs : Nat) (W : World) : Prop := W.heap[Bs]? = some (.cells #[.int .u64 g.lo, .int .u64 g.hi, .int .u8 g.h] 26 (0, 0))
def BiF (pre : List (List UInt8)) (Bi : Nat) (W : World) : Prop := W.heap[Bi]? = some (.cells #[.int .i64 (off pre : Int)] 3 (0, 0))
def O3 (V : World) (B : Nat) (sa : Option Addr) (sc N : Nat) (S : List Sg) (g : Sg) (va : Option Addr) (vc : Nat) (W : World) : Prop :=
  W.ownsRow B 26 3 (.slice va (N + 1) vc) (N + 1) (cells S ++ cellsG g) ∧ Kp (fun q => some q = (Value.slice sa N sc).ownBlock) V W
def Ph (V : World) (B : Nat) (sa : Option Addr) (sc N : Nat) (S : List Sg) (g : Sg) (l3 : Bool) (va : Option Addr) (vc : Nat) (W : World) : Prop := if l3 = true then O3 V B sa sc N S g va vc W else Kp Nu V W
def O7 (V : World) (B : Nat) (sa : Option Addr) (sc : Nat) (ba : Option Addr) (bc N : Nat) (S : List Sg) (pre : List (List UInt8)) (g : Sg) (va : Option Addr) (vc : Nat) (ua : Option Addr) (uc : Nat) (W : World) : Prop :=
  W.ownsRow B 26 3 (.slice va (N + 1) vc) (N + 1) (cells S ++ cellsG g) ∧ W.ownsRow B 3 1 (.slice ua (N + 1) uc) (N + 1) (begs pre ++ [.int .i64 (off pre : Int)]) ∧ Kp (fun q => some q = (Value.slice sa N sc).ownBlock ∨ some q = (Value.slice ba N bc).ownBlock) V W
theorem info3r : (Tryd.prog.info? 3).map (fun i => (i.zero, i.size, i.bytes)) = some (some (.int .i64 0), 1, 8) := by kernel_rfl
theorem info26r : (Tryd.prog.info? 26).map (fun i => (i.zero, i.size, i.bytes)) = some (some (.agg #[.int .u64 0, .int .u64 0, .int .u8 0]), 3, 24) := by kernel_rfl
/-- blocks below the rows stand -/
theorem Rgn.low (h : Rgn w V B sa sc ba bc N bX S pre g) {T : Nat → Prop} (hT : ∀ q, T q → some q = (Value.slice sa N sc).ownBlock ∨ some q = (Value.slice ba N bc).ownBlock) (k : Kp T V W) {q : Nat} {c : Array Value} {t : TypeId} (hq : V.heap[q]? = some (.cells c t (0, 0))) (hlt : q < w.heap.size + 9) : W.heap[q]? = some (.cells c t (0, 0)) :=
  (k.block q (Rg.blk_lt hq) (fun e => by
    rcases hT q e with e | e
    · have := (h.rs.lt q e.symm).1; have := h.lo; omega
    · have := (h.rb.lt q e.symm).1; have := h.lo; omega)).trans hq
theorem Ph.kp (h : Rgn w V B sa sc ba bc N bX S pre g) {l3 : Bool} {va : Option Addr} {vc : Nat} (hp : Ph V B sa sc N S g l3 va vc W) : Kp (fun q => some q = (Value.slice sa N sc).ownBlock ∨ some q = (Value.slice ba N bc).ownBlock) V W := by
  unfold Ph at hp
  split at hp
  · exact hp.2.mono (fun _ _ e => .inl e)
  · exact hp.mono (fun _ _ e => e.elim)
theorem Ph.c89 (h : Rgn w V B sa sc ba bc N bX S pre g) {l3 : Bool} {va : Option Addr} {vc : Nat} (hp : Ph V B sa sc N S g l3 va vc W) : W.cell? ⟨w.heap.size + 1 + 1 + 1 + 1, 0, none⟩ = some (.slice ba N bc) ∧ W.cell? ⟨w.heap.size + 1 + 1 + 1 + 1 + 1, 0, none⟩ = some (.int .i64 (off pre : Int)) :=
  ⟨Rg.cell1 (h.low (fun _ e => e) (Ph.kp h hp) h.c8 (by omega)), Rg.cell1 (h.low (fun _ e => e) (Ph.kp h hp) h.c9 (by omega))⟩
theorem Ph.alloc {l3 : Bool} {va : Option Addr} {vc : Nat} (hp : Ph V B sa sc N S g l3 va vc W) (o : Obj) : Ph V B sa sc N S g l3 va vc (W.alloc o) := by
  unfold Ph at hp ⊢
  split at hp
  · rename_i hl
    rw [if_pos hl]
    exact ⟨hp.1.alloc _, hp.2.andNu (Rg.Kp.alloc W o Nu)⟩
  · rename_i hl
    rw [if_neg hl]
    exact hp.andNu (Rg.Kp.alloc W o Nu)
theorem Rgn.c7X (h : Rgn w V B sa sc ba bc N bX S pre g) (k : Kp Nu V W) : W.cell? ⟨w.heap.size + 1 + 1 + 1, 0, none⟩ = some (.slice sa N sc) ∧ W.cell? ⟨bX, 0, none⟩ = some (.int .u64 g.lo) ∧ W.cell? ⟨bX, 1, none⟩ = some (.int .u64 g.hi) ∧ W.cell? ⟨bX, 2, none⟩ = some (.int .u8 g.h) := by
  obtain ⟨x0, x1, x2⟩ := Rg.cell3 ((k.block bX (Rg.blk_lt h.cX) (fun e => e)).trans h.cX)
  exact ⟨Rg.cell1 ((k.block _ (Rg.blk_lt h.c7) (fun e => e)).trans h.c7), x0, x1, x2⟩
/-- the first append -/
theorem Rgn.ap3 (h : Rgn w V B sa sc ba bc N bX S pre g) (k : Kp Nu V W) {Bs : Nat} (hb : BsF g Bs W) : ∃ va vc W2, (Builtin.append_ #[22, 22] 22 #[.slice sa N sc, .slice (some ⟨Bs, 0, none⟩) 1 1]).run Tryd.prog W = .ok (.slice va (N + 1) vc) W2 ∧ O3 V B sa sc N S g va vc W2 ∧ ∀ Bi, BiF pre Bi W → BiF pre Bi W2 := by
  obtain ⟨i0, hiT, hz0, hz1, hz2⟩ := info_parts info26r
  have hr : W.ownsRow B 26 3 (.slice sa N sc) N (cells S) := Rg.own_keep h.rs (fun q e => k.block q (Rg.own_lt h.rs e) (fun x => x))
  have hB : B ≤ W.heap.size := Nat.le_trans h.sz k.size
  have hn := h.nb
  obtain ⟨v', w', hrun, h2, h3, _, h5⟩ := run_append_own_at (P := Tryd.prog) W B 22 22 26 i0 _ 3 24 Tryd.underlying22 hiT hz0 hz1 hz2 rfl (by decide) (.slice sa N sc) N (cells S) hr ⟨Bs, 0, none⟩ 1 1 (cellsG g) rfl (World.news_of_block hb) (by simp [cellsG, Value.oneCell']) (by unfold maxLen; omega) (by omega) hB
  obtain ⟨va, vc, rfl⟩ := Rg.own_slice h2
  refine ⟨va, vc, w', hrun, ⟨h2, (k.mono (fun _ _ e => e.elim)).trans (Rg.Kp.of_grown h3) (fun _ _ e => e)⟩, fun Bi hBi => ?_⟩
  refine ((Rg.Kp.of_grown h3).block Bi (Rg.blk_lt hBi) (fun e => ?_)).trans hBi
  obtain ⟨c, hc⟩ := Rg.own_obj hr e.symm
  unfold BiF at hBi
  rw [hBi] at hc; cases hc
/-- the second append -/
theorem Rgn.ap7 (h : Rgn w V B sa sc ba bc N bX S pre g) {va : Option Addr} {vc : Nat} (hO : O3 V B sa sc N S g va vc W) {Bi : Nat} (hb : BiF pre Bi W) : ∃ ua uc W2, (Builtin.append_ #[115, 115] 115 #[.slice ba N bc, .slice (some ⟨Bi, 0, none⟩) 1 1]).run Tryd.prog W = .ok (.slice ua (N + 1) uc) W2 ∧ O7 V B sa sc ba bc N S pre g va vc ua uc W2 := by
  obtain ⟨i0, hiT, hz0, hz1, hz2⟩ := info_parts info3r
  have nb : ∀ q, (Value.slice ba N bc).ownBlock = some q → ¬ some q = (Value.slice sa N sc).ownBlock := fun q e e2 => by
    obtain ⟨c, hc⟩ := Rg.own_obj h.rb e
    obtain ⟨c', hc'⟩ := Rg.own_obj h.rs e2.symm
    rw [hc] at hc'; cases hc'
  have hr : W.ownsRow B 3 1 (.slice ba N bc) N (begs pre) := Rg.own_keep h.rb (fun q e => hO.2.block q (Rg.own_lt h.rb e) (nb q e))
  have hB : B ≤ W.heap.size := Nat.le_trans h.sz hO.2.size
  have hn := h.nb
  obtain ⟨v', w', hrun, h2, h3, _, h5⟩ := run_append_own_at (P := Tryd.prog) W B 115 115 3 i0 _ 1 8 Tryd.underlying115 hiT hz0 hz1 hz2 rfl (by decide) (.slice ba N bc) N (begs pre) hr ⟨Bi, 0, none⟩ 1 1 [.int .i64 (off pre : Int)] rfl (World.news_of_block hb) (by simp [Value.oneCell']) (by unfold maxLen; omega) (by omega) hB
  obtain ⟨ua, uc, rfl⟩ := Rg.own_slice h2
  refine ⟨ua, uc, w', hrun, ?_, h2, (hO.2.mono (fun _ _ e => .inl e)).trans (Rg.Kp.of_grown h3) (fun _ _ e => .inr e)⟩
  refine Rg.own_keep hO.1 (fun q e => (Rg.Kp.of_grown h3).block q (Rg.own_lt hO.1 e) (fun e2 => ?_))
  obtain ⟨c, hc⟩ := Rg.own_obj hr e2.symm
  obtain ⟨c', hc'⟩ := Rg.own_obj hO.1 e
  rw [hc] at hc'; cases hc'
theorem O7.box (h : Rgn w V B sa sc ba bc N bX S pre g) {va : Option Addr} {vc : Nat} {ua : Option Addr} {uc : Nat} (hO : O7 V B sa sc ba bc N S pre g va vc ua uc W) : W.heap[w.heap.size + 1 + 1 + 1]? = some (.cells #[.slice sa N sc] 22 (0, 0)) ∧ W.heap[w.heap.size + 1 + 1 + 1 + 1]? = some (.cells #[.slice ba N bc] 115 (0, 0)) ∧ W.heap[w.heap.size + 1 + 1 + 1 + 1 + 1]? = some (.cells #[.int .i64 (off pre : Int)] 3 (0, 0)) :=
  ⟨h.low (fun _ e => e) hO.2.2 h.c7 (by omega), h.low (fun _ e => e) hO.2.2 h.c8 (by omega), h.low (fun _ e => e) hO.2.2 h.c9 (by omega)⟩
def O8 (w V : World) (B : Nat) (sa : Option Addr) (sc : Nat) (ba : Option Addr) (bc N : Nat) (S : List Sg) (pre : List (List UInt8)) (g : Sg) (va : Option Addr) (vc : Nat) (ua : Option Addr) (uc : Nat) (W : World) : Prop :=
  ∃ W7, O7 V B sa sc ba bc N S pre g va vc ua uc W7 ∧ W = W7.setCell ⟨w.heap.size + 1 + 1 + 1, 0, none⟩ (.slice va (N + 1) vc)
def O9 (w V : World) (B : Nat) (sa : Option Addr) (sc : Nat) (ba : Option Addr) (bc N : Nat) (S : List Sg) (pre : List (List UInt8)) (g : Sg) (va : Option Addr) (vc : Nat) (ua : Option Addr) (uc : Nat) (W : World) : Prop :=
  ∃ W7, O7 V B sa sc ba bc N S pre g va vc ua uc W7 ∧ W = (W7.setCell ⟨w.heap.size + 1 + 1 + 1, 0, none⟩ (.slice va (N + 1) vc)).setCell ⟨w.heap.size + 1 + 1 + 1 + 1, 0, none⟩ (.slice ua (N + 1) uc)
theorem O8.c8 (h : Rgn w V B sa sc ba bc N bX S pre g) {va : Option Addr} {vc : Nat} {ua : Option Addr} {uc : Nat} (hO : O8 w V B sa sc ba bc N S pre g va vc ua uc W) : W.heap[w.heap.size + 1 + 1 + 1 + 1]? = some (.cells #[.slice ba N bc] 115 (0, 0)) := by
  obtain ⟨W7, h7, rfl⟩ := hO
  exact (set_other _ _ _ _ (by omega)).trans (O7.box h h7).2.1
theorem O9.c9 (h : Rgn w V B sa sc ba bc N bX S pre g) {va : Option Addr} {vc : Nat} {ua : Option Addr} {uc : Nat} (hO : O9 w V B sa sc ba bc N S pre g va vc ua uc W) : W.heap[w.heap.size + 1 + 1 + 1 + 1 + 1]? = some (.cells #[.int .i64 (off pre : Int)] 3 (0, 0)) := by
  obtain ⟨W7, h7, rfl⟩ := hO
  exact (set_other _ _ _ _ (by omega)).trans ((set_other _ _ _ _ (by omega)).trans (O7.box h h7).2.2)
end
theorem ph_f {V W : World} {B : Nat} {sa : Option Addr} {sc N : Nat} {S : List Sg} {g : Sg} {va : Option Addr} {vc : Nat} (h : Ph V B sa sc N S g false va vc W) : Kp Nu V W := by
  unfold Ph at h
  rwa [if_neg (by simp)] at h
theorem ph_t {V W : World} {B : Nat} {sa : Option Addr} {sc N : Nat} {S : List Sg} {g : Sg} {va : Option Addr} {vc : Nat} (h : Ph V B sa sc N S g true va vc W) : O3 V B sa sc N S g va vc W := by
  unfold Ph at h
  rwa [if_pos rfl] at h
theorem ph_mk {V W : World} {B : Nat} {sa : Option Addr} {sc N : Nat} {S : List Sg} {g : Sg} {va : Option Addr} {vc : Nat} (h : O3 V B sa sc N S g va vc W) : Ph V B sa sc N S g true va vc W := by
  unfold Ph
  rwa [if_pos rfl]
theorem BsF.alloc {g : Sg} {Bs : Nat} {W : World} (h : BsF g Bs W) (o : Obj) : BsF g Bs (W.alloc o) := (Below.heap_alloc W o Bs (Rg.blk_lt h)).trans h
theorem BiF.alloc {pre : List (List UInt8)} {Bi : Nat} {W : World} (h : BiF pre Bi W) (o : Obj) : BiF pre Bi (W.alloc o) := (Below.heap_alloc W o Bi (Rg.blk_lt h)).trans h
theorem lt_cases10 {i : Nat} (h : i < 10) : i = 0 ∨ i = 1 ∨ i = 2 ∨ i = 3 ∨ i = 4 ∨ i = 5 ∨ i = 6 ∨ i = 7 ∨ i = 8 ∨ i = 9 := by omega
end Go.Proofs.YtffcnonhhfhlhaaDoor.Ws
