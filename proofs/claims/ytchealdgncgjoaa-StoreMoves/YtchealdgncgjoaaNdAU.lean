import Derived.Test.YtchealdgncgjoaaSvA
namespace Go.Proofs.Ytchealdgncgjoaa.StU
open Go.RowKit Go.Proofs.Ytchealdgncgjoaa.St
set_option linter.unusedVariables false

/-- a tree in memory; its nodes are never written to -/
def Tr (w : World) : T (Int × Sv) → Option Addr → Prop
  | .nil, a => a = none
  | .node l p r, a => ∃ b al ar, a = some ⟨b, 0, none⟩ ∧ w.heap[b]? = some (.cells #[.int .u64 (p.1), .slice (p.2).a (p.2).n (p.2).c, .pointer al, .pointer ar, .int .i64 ((l.sz + 1 + r.sz : Nat) : Int), .int .i64 ((max l.ht r.ht + 1 : Nat) : Int)] 211 (0, 0)) ∧ Tr w l al ∧ Tr w r ar
/-- the nodes are as they were -/
def Kn (w w' : World) : Prop := ∀ (b : Nat) (c : Array Value), w.heap[b]? = some (.cells c 211 (0, 0)) → w'.heap[b]? = some (.cells c 211 (0, 0))
theorem Kn.refl (w : World) : Kn w w := fun _ _ h => h
theorem Kn.trans {a b c : World} (h : Kn a b) (k : Kn b c) : Kn a c := fun i c e => k i c (h i c e)
theorem Kn.nu {w w' : World} (k : Kp Nu w w') : Kn w w' := fun b c h => (k.block b (blk_lt h) (fun h => h)).trans h
theorem Kn.of {S : Nat → Prop} {w w' : World} (k : Kp S w w') (hS : ∀ b c, w.heap[b]? = some (.cells c 211 (0, 0)) → ¬ S b) : Kn w w' := fun b c h => (k.block b (blk_lt h) (hS b c h)).trans h
theorem Tr.keep {w w' : World} (k : Kn w w') : ∀ {t : T (Int × Sv)} {a : Option Addr}, Tr w t a → Tr w' t a
  | .nil, _, h => h
  | .node l p r, _, ⟨b, al, ar, e, hb, hl, hr⟩ => ⟨b, al, ar, e, k b _ hb, hl.keep k, hr.keep k⟩
theorem Tr.nu {w w' : World} {t : T (Int × Sv)} {a : Option Addr} (h : Tr w t a) (k : Kp Nu w w') : Tr w' t a := h.keep (Kn.nu k)
/-- a node with this pair -/
def Nd (w : World) (p : Int × Sv) (a : Option Addr) : Prop := ∃ b x2 x3 x4 x5, a = some ⟨b, 0, none⟩ ∧ w.heap[b]? = some (.cells #[.int .u64 (p.1), .slice (p.2).a (p.2).n (p.2).c, x2, x3, x4, x5] 211 (0, 0))
theorem Tr.nd {w : World} {l r : T (Int × Sv)} {p : Int × Sv} {a : Option Addr} (h : Tr w (.node l p r) a) : Nd w p a := by
  obtain ⟨b, al, ar, e, hb, _⟩ := h
  exact ⟨b, _, _, _, _, e, hb⟩
theorem Nd.keep {w w' : World} {p : Int × Sv} {a : Option Addr} (h : Nd w p a) (k : Kn w w') : Nd w' p a := by
  obtain ⟨b, x2, x3, x4, x5, e, hb⟩ := h
  exact ⟨b, x2, x3, x4, x5, e, k b _ hb⟩
theorem cell6 {w : World} {b : Nat} {x0 x1 x2 x3 x4 x5 : Value} {t : TypeId} (h : w.heap[b]? = some (.cells #[x0, x1, x2, x3, x4, x5] t (0, 0))) :
    w.cell? ⟨b, 0, none⟩ = some x0 ∧ w.cell? ⟨b, 1, none⟩ = some x1 ∧ w.cell? ⟨b, 2, none⟩ = some x2 ∧ w.cell? ⟨b, 3, none⟩ = some x3 ∧ w.cell? ⟨b, 4, none⟩ = some x4 ∧ w.cell? ⟨b, 5, none⟩ = some x5 := by
  refine ⟨?_, ?_, ?_, ?_, ?_, ?_⟩ <;> simp [World.cell?, h]

set_option maxHeartbeats 400000 in
theorem count_any {w : World} {t : T (Int × Sv)} {a : Option Addr} (h : Tr w t a) : Calls Try.prog 177 #[.pointer a] w fun e w' => e = .returned (.int .i64 (t.sz : Int)) ∧ w' = w := by
  cases t with
  | nil =>
    cases (show a = none from h)
    go_enter Try.func177, Try.ntmps177
    go_wp2
    go_ret
    exact ⟨rfl, rfl⟩
  | node l p r =>
    obtain ⟨b, al, ar, rfl, hb, _, _⟩ := h
    obtain ⟨c0, c1, c2, c3, c4, c5⟩ := cell6 hb
    have e : ((l.sz + 1 + r.sz : Nat) : Int) = ((T.node l p r).sz : Int) := rfl
    rw [e] at c4
    generalize ((T.node l p r).sz : Int) = z at *
    clear hb e c0 c1 c2 c3 c5
    go_enter Try.func177, Try.ntmps177
    go_wp2
    go_ret
    exact ⟨rfl, rfl⟩
set_option maxHeartbeats 400000 in
theorem high_any {w : World} {t : T (Int × Sv)} {a : Option Addr} (h : Tr w t a) : Calls Try.prog 205 #[.pointer a] w fun e w' => e = .returned (.int .i64 (t.ht : Int)) ∧ w' = w := by
  cases t with
  | nil =>
    cases (show a = none from h)
    go_enter Try.func205, Try.ntmps205
    go_wp2
    go_ret
    exact ⟨rfl, rfl⟩
  | node l p r =>
    obtain ⟨b, al, ar, rfl, hb, _, _⟩ := h
    obtain ⟨c0, c1, c2, c3, c4, c5⟩ := cell6 hb
    have e : ((max l.ht r.ht + 1 : Nat) : Int) = ((T.node l p r).ht : Int) := rfl
    rw [e] at c5
    generalize ((T.node l p r).ht : Int) = z at *
    clear hb e c0 c1 c2 c3 c4
    go_enter Try.func205, Try.ntmps205
    go_wp2
    go_ret
    exact ⟨rfl, rfl⟩
end Go.Proofs.Ytchealdgncgjoaa.StU
