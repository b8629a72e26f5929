import Derived.Test.YtafidjmennpnnaaDoorJrB
import Derived.Test.YtafidjmennpnnaaDoorJrC
import Derived.Below
import Derived.Defers
import Derived.Recover
namespace Go.Proofs.YtafidjmennpnnaaDoor
open Go.RowKit Go.Extern.Stop Go.Stop Go.Extern
set_option linter.unusedVariables false

/-- old memory is as it was -/
structure Bw (w w' : World) : Prop where
  b : Below w.heap.size w w'
theorem Bw.refl (w : World) : Bw w w := ⟨Below.refl _ _⟩
theorem Bw.trans {a b c : World} (h : Bw a b) (k : Bw b c) : Bw a c := ⟨h.b.trans (k.b.mono h.b.size)⟩
theorem Bw.al {w w1 : World} (h : Bw w w1) (o : Obj) : Bw w (w1.alloc o) := ⟨h.b.alloc h.b.size o⟩
theorem Bw.se {w w1 : World} (h : Bw w w1) {p : Addr} (hp : w.heap.size ≤ p.block) (u : Value) : Bw w (w1.setCell p u) := ⟨h.b.setCell hp u⟩
theorem Bw.dr {w w1 : World} (h : Bw w w1) : Bw w w1.drew := ⟨h.b.drew⟩
/-- the deferred function of Reason, where nothing panics -/
theorem catch_idle (p q r : Addr) (w : World) :
    CallsD Tryd.prog 9 #[.pointer (some p), .pointer (some q), .pointer (some r)] .returning w fun e u' w' => e = .returned (.tuple #[]) ∧ u' = .returning ∧ w' = w := by
  refine callsD_of_wpS Tryd.func9 rfl fun c₀ cs hu => ?_
  apply wpS_seq
  apply wpS_region
  simp [wpOpsS, go_sem, recoverD, hu, Tryd.ntmps9, Exit.thenS]
  refine wpS_cond (t := false) (by simp [Act.eval, Array.replicate]) ?_
  simp only [Bool.false_eq_true, if_false]
  refine wpS_of_wp (wp_skip ?_)
  cases c₀
  simp_all [bodyPostS, results, Tryd.results9]

theorem reason_nil (w : World) : Calls Tryd.prog 6 #[.nilIface] w fun e w' => e = .returned (.tuple #[.int .i64 0, .int .i64 0, .int .i64 0]) ∧ Bw w w' := by
  have hmf : ∀ (fn : Fn) (first cap : Array Value) (w : World), (Instr.makeFunc fn first cap).run Tryd.prog w = .ok (.func fn first cap) w := fun _ _ _ _ => rfl
  go_enter_defers Tryd.func6, Tryd.ntmps6
  go_wp2
  refine leaves_cons (f := 9) (args := #[.pointer (some ⟨w.heap.size, 0, none⟩), .pointer (some ⟨w.heap.size + 1, 0, none⟩), .pointer (some ⟨w.heap.size + 1 + 1, 0, none⟩)]) (by simp) (by simp [go_sem]) ?_
  refine (catch_idle _ _ _ _).mono ?_
  rintro e u' w'' ⟨rfl, rfl, rfl⟩
  simp [Leaves, settle, results, Tryd.results6, go_sem]
  exact (((Bw.refl w).al _).al _).al _

/-- the variable that holds the type error's handle -/
def Et (w : World) : Prop := w.cell? ⟨0, 0, none⟩ = some (.iface 53 (.agg #[.pointer (some ⟨4, 27, none⟩)]))
theorem Et.lt {w : World} (h : Et w) : 0 < w.heap.size := by
  rcases Nat.eq_zero_or_pos w.heap.size with h0 | h'
  · simp [Et, World.cell?, h0] at h
  · exact h'
theorem Et.below {w w' : World} (h : Et w) (k : Bw w w') : Et w' := (k.b.cell (p := ⟨0, 0, none⟩) h.lt).trans h

/-- t has been set to v; else old memory is as it was -/
structure Bt (t : Addr) (v : Value) (w w' : World) : Prop where
  os : w'.os = w.os
  tape : w'.tape = w.tape
  output : w'.output = w.output
  size : w.heap.size ≤ w'.heap.size
  block : ∀ k, k < w.heap.size → w'.heap[k]? = (w.setCell t v).heap[k]?
theorem Bt.of {t : Addr} {v : Value} {w X : World} (h : Bw w X) : Bt t v w (X.setCell t v) := by
  refine ⟨h.b.os, h.b.tape, h.b.output, by simpa [World.setCell] using h.b.size, fun k hk => ?_⟩
  have := h.b.block k hk
  simp [World.setCell, Array.getElem?_modify, this]
theorem Bt.cell {t : Addr} {v : Value} {w w' : World} (h : Bt t v w w') {p : Addr} (hp : p.block < w.heap.size) : w'.cell? p = (w.setCell t v).cell? p := World.cell?_of_block (h.block p.block hp)
theorem Bt.frozen {t : Addr} {v : Value} {w w' : World} (h : Bt t v w w') {p : Addr} (hp : p.block < w.heap.size) : w'.frozen? p = (w.setCell t v).frozen? p := World.frozen?_of_block (h.block p.block hp)
theorem Bt.bw {t : Addr} {v : Value} {w w1 w' : World} (h : Bt t v w1 w') (k : Bw w w1) (ht : w.heap.size ≤ t.block) : Bw w w' := by
  have k2 := k.se ht v
  exact ⟨⟨h.os.trans k.b.os, h.tape.trans k.b.tape, h.output.trans k.b.output, Nat.le_trans k.b.size h.size, fun i hi => (h.block i (Nat.lt_of_lt_of_le hi k.b.size)).trans (k2.b.block i hi)⟩⟩
theorem hitF (t : Addr) (old : Value) (w : World) (hE : Et w) (ht0 : w.cell? t = some old) (hf0 : w.frozen? t = false) :
    Calls Tryd.prog 10 #[.iface 23 (.pointer none), .iface 36 (.pointer (some t))] w fun ev w' => ev = .returned (.bool true) ∧ Bt t (.pointer none) w w' :=
  (as_hitF t old w hE ht0 hf0).mono fun e w' h => ⟨h.1, by rw [h.2]; exact Bt.of (((((Bw.refl w).al _).al _).al _).al _)⟩
theorem hitE (y : Int) (t : Addr) (old : Value) (w : World) (hE : Et w) (ht0 : w.cell? t = some old) (hf0 : w.frozen? t = false) :
    Calls Tryd.prog 10 #[.iface 22 (.int .i64 y), .iface 37 (.pointer (some t))] w fun ev w' => ev = .returned (.bool true) ∧ Bt t (.int .i64 y) w w' :=
  (as_hitE y t old w hE ht0 hf0).mono fun e w' h => ⟨h.1, by rw [h.2]; exact Bt.of (((((Bw.refl w).al _).al _).al _).al _)⟩
theorem missF (t : Addr) (w : World) (hE : Et w) :
    Calls Tryd.prog 10 #[.iface 23 (.pointer none), .iface 37 (.pointer (some t))] w fun ev w' => ev = .returned (.bool false) ∧ Bw w w' :=
  (as_missF t w hE).mono fun e w' h => ⟨h.1, by rw [h.2]; exact ((((Bw.refl w).al _).al _).al _)⟩
theorem missE (y : Int) (t : Addr) (w : World) (hE : Et w) :
    Calls Tryd.prog 10 #[.iface 22 (.int .i64 y), .iface 36 (.pointer (some t))] w fun ev w' => ev = .returned (.bool false) ∧ Bw w w' :=
  (as_missE y t w hE).mono fun e w' h => ⟨h.1, by rw [h.2]; exact ((((Bw.refl w).al _).al _).al _)⟩
theorem at_new (w : World) (o : Obj) : (w.alloc o).heap[w.heap.size]? = some o := by
  show (w.heap.push o)[w.heap.size]? = some o
  simp
/-- four new blocks -/
theorem four (w : World) (a b c d : Obj) :
    ((((w.alloc a).alloc b).alloc c).alloc d).heap[w.heap.size]? = some a ∧ ((((w.alloc a).alloc b).alloc c).alloc d).heap[w.heap.size + 1]? = some b ∧ ((((w.alloc a).alloc b).alloc c).alloc d).heap[w.heap.size + 1 + 1]? = some c ∧ ((((w.alloc a).alloc b).alloc c).alloc d).heap[w.heap.size + 1 + 1 + 1]? = some d := by
  have s1 : (w.alloc a).heap.size = w.heap.size + 1 := by simp
  have s2 : ((w.alloc a).alloc b).heap.size = w.heap.size + 1 + 1 := by simp
  have s3 : (((w.alloc a).alloc b).alloc c).heap.size = w.heap.size + 1 + 1 + 1 := by simp
  have n1 := at_new (w.alloc a) b
  have n2 := at_new ((w.alloc a).alloc b) c
  have n3 := at_new (((w.alloc a).alloc b).alloc c) d
  rw [s1] at n1
  rw [s2] at n2
  rw [s3] at n3
  refine ⟨?_, ?_, ?_, n3⟩
  · rw [Below.heap_alloc _ _ _ (by omega), Below.heap_alloc _ _ _ (by omega), Below.heap_alloc _ _ _ (by omega)]; exact at_new w a
  · rw [Below.heap_alloc _ _ _ (by omega), Below.heap_alloc _ _ _ (by omega)]; exact n1
  · rw [Below.heap_alloc _ _ _ (by omega)]; exact n2
theorem four_size (w : World) (a b c d : Obj) : ((((w.alloc a).alloc b).alloc c).alloc d).heap.size = w.heap.size + 1 + 1 + 1 + 1 := by simp
theorem Bt.other {t : Addr} {v : Value} {w w' : World} {k : Nat} {o : Obj} (h : Bt t v w w') (hk : w.heap[k]? = some o) (ht : k ≠ t.block) : w'.heap[k]? = some o := by
  have hlt : k < w.heap.size := (Array.getElem?_eq_some_iff.1 hk).1
  rw [h.block k hlt, Below.heap_setCell _ _ _ _ ht, hk]
theorem Bt.self {k : Nat} {v x : Value} {w w' : World} {ty : TypeId} (h : Bt ⟨k, 0, none⟩ v w w') (hk : w.heap[k]? = some (.cells #[x] ty (0, 0))) : w'.heap[k]? = some (.cells #[v] ty (0, 0)) := by
  have hlt : k < w.heap.size := (Array.getElem?_eq_some_iff.1 hk).1
  rw [h.block k hlt]
  simp [World.setCell, Array.getElem?_modify, hk]
theorem Bw.at {w w' : World} {k : Nat} {o : Obj} (h : Bw w w') (hk : w.heap[k]? = some o) : w'.heap[k]? = some o := (h.b.block k (Array.getElem?_eq_some_iff.1 hk).1).trans hk
theorem at_cell {w : World} {k : Nat} {x : Value} {ty : TypeId} (hk : w.heap[k]? = some (.cells #[x] ty (0, 0))) : w.cell? ⟨k, 0, none⟩ = some x := by simp [World.cell?, hk]
theorem at_free {w : World} {k : Nat} {x : Value} {ty : TypeId} (hk : w.heap[k]? = some (.cells #[x] ty (0, 0))) : w.frozen? ⟨k, 0, none⟩ = false := by simp [World.frozen?, hk]
theorem at_lt {w : World} {k : Nat} {o : Obj} (hk : w.heap[k]? = some o) : k < w.heap.size := (Array.getElem?_eq_some_iff.1 hk).1
end Go.Proofs.YtafidjmennpnnaaDoor
