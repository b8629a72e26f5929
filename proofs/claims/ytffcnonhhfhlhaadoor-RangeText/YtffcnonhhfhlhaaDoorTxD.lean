import Derived.Test.YtffcnonhhfhlhaaDoorTxC
namespace Go.Proofs.YtffcnonhhfhlhaaDoor.Rg
open Go.RowKit Go.Shelf Go.Sort
open Go.Proofs.YtffcnonhhfhlhaaDoor.It
attribute [local go_sem] Oper.semAt_some
set_option linter.unusedVariables false

theorem wpListIn_append_str {F : Fence} {n : Nat} {P : Program} (w : World) {ops : Array Oper} {rest : List Oper} {o : Oper} {a : Act} {Q : Exit → Act → World → Prop}
    (hg : o.guard = none) (sl x : Operand) (t u : TypeId) (hop : o.op = Op.call { callee := Callee.builtin Builtin.append, args := #[sl, x], argTypes := #[t, u] })
    (base : Nat) (e : TypeId) (i : TypeInfo) (ht : P.underlying t = some (.slice e)) (hu : P.underlying u = some .string) (hi : P.info? e = some i) (hz : i.zero = some (.int .u8 0)) (hsize : i.size = 1) (hby : i.bytes = 1)
    (v : Value) (k : Nat) (xs : List Value) (hs : a.eval sl = v) (hown : w.ownsRow base e 1 v k xs) (s : ByteArray) (hx : a.eval x = .string s)
    (b1 : k + s.size ≤ maxLen) (b2 : k + s.size ≤ 140737488355328) (b3 : base ≤ w.heap.size)
    (hK : ∀ v' w', w'.ownsRow base e 1 v' (k + s.size) (xs ++ Lib.strCells s) → w.grownBy w' v.ownBlock → wpListIn F n P ops Q rest (a.put o.dst v') w') :
    wpListIn F n P ops Q (o :: rest) a w := by
  refine wpListIn_plain hg fun K hK' => ?_
  obtain ⟨v', w', hrun, r1, r2, r3⟩ := Lib.run_append_own_string (P := P) w base t u o.type e i ht hu hi hz hsize hby v k xs hown s b1 b2 b3
  unfold Oper.wpIn
  refine ⟨?_, ?_⟩
  · simp [Oper.about, hop, resolve, Target.leads, Sem.run_pure]
  · rw [Oper.semAt_plain F _ _ (by rw [hop]; intro c hc'; cases hc')]
    simp [execOp, hop, resolve, invoke, builtin, hs, hx, hrun, Result.andThen]
    exact hK' _ _ (hK v' w' r1 r2)

/-- the text so far, in a box -/
structure Tz (w V V' : World) (BX : Nat) (l : List UInt8) : Prop where
  box : ∃ u, V'.heap[BX]? = some (.cells #[u] 100 (0, 0)) ∧ V'.ownsRow w.heap.size 5 1 u l.length (Lib.byteCells l)
  bel : Below w.heap.size w V'
  oth : Lib.OthersKept 5 (some BX) V V'
theorem own_type5 {w : World} {B n g : Nat} {u : Value} {xs : List Value} (h : w.ownsRow B 5 1 u n xs) (hg : u.ownBlock = some g) : B ≤ g ∧ ∃ c, w.heap[g]? = some (.cells c 5 (0, 0)) := by
  obtain ⟨c, hc⟩ := own_obj h hg
  exact ⟨(h.lt g hg).1, c, hc⟩
theorem Tz.of_ap {w V V1 : World} {BX : Nat} {u0 u1 : Value} {l1 : List UInt8} (hb : V.heap[BX]? = some (.cells #[u0] 100 (0, 0))) (hBX : w.heap.size ≤ BX) (hB : Below w.heap.size w V) (A : Ap w.heap.size V V1 u1 l1) :
    V1.heap[BX]? = some (.cells #[u0] 100 (0, 0)) ∧ (V1.setCell ⟨BX, 0, none⟩ u1).heap[BX]? = some (.cells #[u1] 100 (0, 0)) ∧ (V1.setCell ⟨BX, 0, none⟩ u1).ownsRow w.heap.size 5 1 u1 l1.length (Lib.byteCells l1) ∧ Tz w V (V1.setCell ⟨BX, 0, none⟩ u1) BX l1 := by
  have hb1 : V1.heap[BX]? = some (.cells #[u0] 100 (0, 0)) := A.oth _ _ hb (by simp) (by intro c fz e; cases e)
  have hb2 : (V1.setCell ⟨BX, 0, none⟩ u1).heap[BX]? = some (.cells #[u1] 100 (0, 0)) := set3 hb1 0 u1
  have ho : (V1.setCell ⟨BX, 0, none⟩ u1).ownsRow w.heap.size 5 1 u1 l1.length (Lib.byteCells l1) := own_keep A.own (fun g hg => Below.heap_setCell _ _ _ _ (fun e => by
    obtain ⟨_, c, e3⟩ := own_type5 A.own hg
    have e2 : g = BX := e
    subst e2
    rw [hb1] at e3; cases e3))
  have hA : Lib.OthersKept 5 (some BX) V V1 := fun k o hk _ ho => A.oth k o hk (by simp) ho
  exact ⟨hb1, hb2, ho, ⟨_, hb2, ho⟩, (hB.trans A.bel).setCell hBX u1, hA.setCell _ rfl _⟩
theorem Tz.trans {w V V1 V2 : World} {BX : Nat} {l1 l2 : List UInt8} (h : Tz w V V1 BX l1) (k : Tz w V1 V2 BX l2) : Tz w V V2 BX l2 := ⟨k.box, k.bel, h.oth.trans k.oth⟩
theorem Tz.kf {w V V' : World} {BX B : Nat} {l : List UInt8} {u : Value} (hb : V.heap[BX]? = some (.cells #[u] 100 (0, 0))) (hs : V.heap.size ≤ V'.heap.size) (h : Tz w V V' BX l) : KeepsFrom B V V' :=
  ⟨hs, fun k o _ hk hc => h.oth k o hk (fun e => by cases e; rw [hb] at hk; cases hk; cases hc) (fun c fz e => by subst e; cases hc)⟩
/-- the box as the loop's word -/
structure Tx (w V : World) (BX : Nat) (l : List UInt8) : Prop where
  box : ∃ u, V.heap[BX]? = some (.cells #[u] 100 (0, 0)) ∧ V.ownsRow w.heap.size 5 1 u l.length (Lib.byteCells l)
theorem Tx.own {w : World} {BX : Nat} {β : Type} (B : Nat) (f : β → List UInt8) : OwnFrom B (fun p V => Tx w V BX (f p)) := fun p X Z row hs hg hr => by
  obtain ⟨u, h1, h2⟩ := hs.box
  refine ⟨u, own_cells (β := Unit) B _ _ _ _ () X Z row h1 hg hr, own_keep h2 (fun g e => hg.block g (own_lt h2 e) (fun e2 => ?_))⟩
  obtain ⟨_, o, ho, hc⟩ := hr g e2.symm
  obtain ⟨_, c, e3⟩ := own_type5 h2 e
  rw [e3] at ho; cases ho; cases hc
theorem Tx.nu {w V V' : World} {BX : Nat} {l : List UInt8} (h : Tx w V BX l) (k : Kp Nu V V') : Tx w V' BX l := by
  obtain ⟨u, h1, h2⟩ := h.box
  exact ⟨u, (k.block _ (blk_lt h1) (fun h => h)).trans h1, own_keep h2 (fun g e => k.block g (own_lt h2 e) (fun h => h))⟩

set_option maxHeartbeats 1000000 in
theorem all_any {B b : Nat} {w : World} {lim : Int} {v : Value} {L : List Sg} (h : Tb B w b lim v L) :
    Calls Tryd.prog 15 #[.pointer (some ⟨b, 0, none⟩)] w fun e w' => ∃ Bn r cap, e = .returned (.func (.func 73) #[] #[.pointer (some ⟨Bn, 0, none⟩)]) ∧ w'.heap[Bn]? = some (.cells #[.slice (some ⟨r, 0, none⟩) L.length cap] 22 (0, 0)) ∧ v.ownBlock = some r ∧ Kp Nu w w' := by
  have FR := from_any h 0 (by omega) (by omega)
  rw [plc_first h.tab.cov] at FR
  simp only [List.drop_zero, Nat.zero_mul] at FR
  go_enter Tryd.func15, Tryd.ntmps15
  go_wp2_with (go_at_call 44; refine FR.mono ?_; rintro e w' ⟨Bn, r, cap, rfl, h1, h2, h3, h4⟩)
  go_ret
  exact ⟨Bn, r, cap, rfl, h2, h3, h4⟩
theorem Tb.sgb {B b : Nat} {w : World} {lim : Int} {v : Value} {L : List Sg} (h : Tb B w b lim v L) : ∀ s ∈ L, SgB s := fun s hs => by
  have h1 := cov_mem h.tab.cov s hs
  have h2 := h.tab.hs s hs
  exact ⟨by omega, by omega, by omega, by omega, by omega, by omega⟩
end Go.Proofs.YtffcnonhhfhlhaaDoor.Rg
