import Derived.Test.YtmlnglillgplfaaGreatCtH
import Derived.BigRegion
namespace Go.Proofs.YtmlnglillgplfaaGreat.Cl
open Go.RowKit Go.Maps
set_option linter.unusedVariables false
theorem tb_ne {B hb b : Nat} {w : World} {lim : Int} {v : Value} {L : List Rg.Sg} (h : Rg.Tb B w hb lim v L) {c : Array Value} {t : TypeId} (hc : w.heap[b]? = some (.cells c t (0, 0))) (ht : t ≠ 212) : hb ≠ b := by
  rintro rfl
  have e := h.blk
  rw [hc] at e
  simp only [Option.some.injEq, Obj.cells.injEq] at e
  exact ht e.2.1
theorem tb_nem {B hb mb nb : Nat} {w : World} {lim : Int} {v : Value} {L : List Rg.Sg} {D : DataW Unit} (h : Rg.Tb B w hb lim v L) (hm : Am w mb nb D) : hb ≠ mb := by
  rintro rfl
  obtain ⟨es, cl, hx⟩ := hm.obj
  rw [h.blk] at hx
  cases hx
/-- the table stands where a client's own blocks have turned -/
theorem tb_cl {B b nb : Nat} {w w' : World} {lim : Int} {v : Value} {L : List Rg.Sg} {hb : Nat} {s : Cs} {D : DataW Unit} (h : Rg.Tb B w hb lim v L) (hc : CB w b s) (hm : Am w s.mb nb D) (k : Kp (fun i => i = b ∨ i = s.mb) w w') : Rg.Tb B w' hb lim v L :=
  tb_kp h k (fun e => Or.elim e (fun e => tb_ne h hc (by decide) e) (fun e => tb_nem h hm e)) (fun i hi c hx => by
    rcases hi with hi | hi
    · rw [hi, hc] at hx; simp only [Option.some.injEq, Obj.cells.injEq] at hx; exact absurd hx.2.1 (by decide)
    · obtain ⟨es, cl, hy⟩ := hm.obj; rw [hi, hy] at hx; cases hx)
theorem tb_base {B B' b : Nat} {w : World} {lim : Int} {v : Value} {L : List Rg.Sg} (h : Rg.Tb B w b lim v L) (hB : B' ≤ B) : Rg.Tb B' w b lim v L :=
  ⟨h.blk, Nat.le_trans hB h.low, own_base h.own hB, h.tab, h.len, h.lim1⟩
end Go.Proofs.YtmlnglillgplfaaGreat.Cl
namespace Go.Proofs.YtmlnglillgplfaaGreat.Cl
open Go.RowKit Go.Maps
set_option linter.unusedVariables false
theorem eval_same {a : Act} {v : Value} {t : Nat} (h : t < a.tmps.size) : (a.put (some t) v).eval (.tmp t) = v := by
  simp [Act.eval, Act.put, h]
theorem eval_other {a : Act} {v : Value} {t u : Nat} (h : t ≠ u) : (a.put (some t) v).eval (.tmp u) = a.eval (.tmp u) := by
  simp [Act.eval, Act.put, Array.getElem?_setIfInBounds_ne h]
theorem put_none {a : Act} {v : Value} : a.put none v = a := rfl
theorem size_put {a : Act} {v : Value} {d : Option Tmp} : (a.put d v).tmps.size = a.tmps.size := by
  cases d <;> simp [Act.put]
theorem ix_first (w : World) (g : Nat) : (Instr.indexAt 42 (.slice (some ⟨g, 0, none⟩) 1 1) (.int .i64 0)).run Tryz.prog w = .ok (.pointer (some ⟨g, 0, none⟩)) w := by
  kernel_rfl
theorem step_plain {P : Program} {ops : Array Oper} {o : Oper} {a : Act} {w : World} {K : Act → World → Prop} {Q : Exit → Act → World → Prop} (hg : o.guard = none) (h : Oper.wp P o a w K Q) : if Region.wanted o (yielded ops a.tmps) = true then Oper.wp P o a w K Q else K (a.put o.dst undef) w := by
  rw [if_pos (by unfold Region.wanted; rw [hg])]
  exact h
theorem step_load {P : Program} {md : Region.Mode} {ops : Array Oper} {Q : Exit → Act → World → Prop} {fuel : Nat} {listed : Array Bool} {a : Act} {w : World} {i : Nat} {o : Oper} (ho : ops[i]? = some o) (hg : o.guard = none) (ty : TypeId) (x : Operand) (hop : o.op = .load ty x) (b of : Nat) (hx : a.eval x = .pointer (some ⟨b, of, none⟩)) (cs : List Value) (d : TypeDesc) (hc : w.rangeAt b of cs) (hu : P.underlying ty = some d) (hd : d.isRow = true) (hi : (P.info? ty).map (·.size) = some cs.length)
    (h : wpAny P md ops Q fuel (listed.setIfInBounds i true) (a.put o.dst (.agg cs.toArray)) w) : AllReady P md ops Q fuel listed a w [i] :=
  AllReady.cons ho (fun K hK => step_plain hg (wp_load_mid ty x hop b of hx cs d hc hu hd hi (hK _ _ h))) AllReady.nil
theorem step_store {P : Program} {md : Region.Mode} {ops : Array Oper} {Q : Exit → Act → World → Prop} {fuel : Nat} {listed : Array Bool} {a : Act} {w : World} {i : Nat} {o : Oper} (ho : ops[i]? = some o) (hg : o.guard = none) (ty : TypeId) (x y : Operand) (hop : o.op = .store ty x y) (b of : Nat) (cells : Array Value) (hx : a.eval x = .pointer (some ⟨b, of, none⟩)) (hy : a.eval y = .agg cells) (ht : w.there b of cells.size) (hi : (P.info? ty).map (·.size) = some cells.size) (h1 : cells.all (·.oneCell') = true)
    (h : wpAny P md ops Q fuel (listed.setIfInBounds i true) (a.put o.dst undef) (w.setCells b of cells.toList)) : AllReady P md ops Q fuel listed a w [i] :=
  AllReady.cons ho (fun K hK => step_plain hg (wp_store_mid ty x y hop b of cells hx hy ht hi h1 (hK _ _ h))) AllReady.nil
set_option maxHeartbeats 2000000 in
/-- return c, l[0], same -/
theorem ret8 {Q : Exit → Act → World → Prop} {a : Act} {W : World} (hQ : ∀ c a d v w, Q (.panic c) (a.put (some d) v) w → Q (.panic c) a w) (mixed : Tryz.prog.follows .mixedOrders = true) (g z : Nat) (x y : Value) (cs : List Value) (hs : a.tmps.size = 67) (h11 : a.eval (.tmp 11) = x) (h13 : a.eval (.tmp 13) = .slice (some ⟨g, 0, none⟩) 1 1) (h15 : a.eval (.tmp 15) = y) (h9 : a.eval (.tmp 9) = .pointer (some ⟨z, 0, none⟩)) (hl : cs.length = 18) (RG : W.drew.rangeAt g 0 cs) (TZ : W.drew.there z 0 18) (ONE : cs.toArray.all (·.oneCell') = true)
    (h : Q .normal ((((((((a.put (some 62) x).put (some 8) x).put (some 63) (.slice (some ⟨g, 0, none⟩) 1 1)).put (some 66) y).put (some 64) (.pointer (some ⟨g, 0, none⟩))).put (some 65) (.agg cs.toArray)).put none undef).put (some 10) y) (W.drew.setCells z 0 cs)) :
    Code.wp Tryz.prog (Code.region 8 #[{ dst := some 62, op := Op.move (Operand.tmp 11), type := 29, pos := "outright.go:24", after := #[], guard := none },
      { dst := some 63, op := Op.move (Operand.tmp 13), type := 42, pos := "outright.go:24", after := #[{ on := 5, ground := Ground.gcOnly Departure.lateStores }], guard := none },
      { dst := some 64, op := Op.indexAddr 42 (Operand.tmp 63) (Operand.const (Value.int IntKind.i64 0)), type := 0, pos := "outright.go:24", after := #[{ on := 1, ground := Ground.data }, { on := 5, ground := Ground.gcOnly Departure.lateStores }], guard := none },
      { dst := some 65, op := Op.load 38 (Operand.tmp 64), type := 38, pos := "outright.go:24", after := #[{ on := 2, ground := Ground.data }, { on := 5, ground := Ground.gcOnly Departure.lateStores }], guard := none },
      { dst := some 66, op := Op.move (Operand.tmp 15), type := 4, pos := "outright.go:24", after := #[{ on := 6, ground := Ground.gcOnly Departure.lateStores }], guard := none },
      { dst := some 8, op := Op.assign (Operand.tmp 62), type := 29, pos := "outright.go:24", after := #[{ on := 0, ground := Ground.data }, { on := 0, ground := Ground.phase }, { on := 1, ground := Ground.textOnly Departure.lateStores }, { on := 2, ground := Ground.textOnly Departure.lateStores }, { on := 3, ground := Ground.textOnly Departure.lateStores }, { on := 4, ground := Ground.textOnly Departure.lateStores }], guard := none },
      { dst := none, op := Op.store 38 (Operand.tmp 9) (Operand.tmp 65), type := 0, pos := "outright.go:24", after := #[{ on := 3, ground := Ground.data }, { on := 5, ground := Ground.chain }, { on := 0, ground := Ground.phase }, { on := 1, ground := Ground.phase }, { on := 2, ground := Ground.phase }, { on := 3, ground := Ground.phase }, { on := 4, ground := Ground.textOnly Departure.lateStores }, { on := 5, ground := Ground.phase }], guard := none },
      { dst := some 10, op := Op.assign (Operand.tmp 66), type := 4, pos := "outright.go:24", after := #[{ on := 4, ground := Ground.data }, { on := 6, ground := Ground.chain }, { on := 0, ground := Ground.phase }, { on := 1, ground := Ground.phase }, { on := 2, ground := Ground.phase }, { on := 3, ground := Ground.phase }, { on := 4, ground := Ground.phase }, { on := 5, ground := Ground.phase }, { on := 6, ground := Ground.phase }], guard := none }] true) Q a W := by
  refine wp_region_any mixed ?_
  change wpAny _ _ _ _ _ _ _ (World.drew _)
  refine wpAny_take (i := 0) (oi := { dst := some 62, op := Op.move (Operand.tmp 11), type := 29, pos := "outright.go:24", after := #[], guard := none }) (v := x) rfl (by kernel_rfl) (by kernel_rfl) (by kernel_rfl) (fun _ _ _ h => hQ _ _ _ _ _ h) (Or.inl ⟨rfl, fun w => (BigFrame.run_move (.tmp 11) rfl w).trans (by rw [h11])⟩) ?_
  refine wpAny_take (i := 5) (oi := { dst := some 8, op := Op.assign (Operand.tmp 62), type := 29, pos := "outright.go:24", after := #[{ on := 0, ground := Ground.data }, { on := 0, ground := Ground.phase }, { on := 1, ground := Ground.textOnly Departure.lateStores }, { on := 2, ground := Ground.textOnly Departure.lateStores }, { on := 3, ground := Ground.textOnly Departure.lateStores }, { on := 4, ground := Ground.textOnly Departure.lateStores }], guard := none }) (v := x) rfl (by kernel_rfl) (by kernel_rfl) (by kernel_rfl) (fun _ _ _ h => hQ _ _ _ _ _ h) (Or.inl ⟨rfl, fun w => (BigFrame.run_assign (.tmp 62) rfl w).trans (by rw [eval_same (by omega)])⟩) ?_
  refine wpAny_take (i := 1) (oi := { dst := some 63, op := Op.move (Operand.tmp 13), type := 42, pos := "outright.go:24", after := #[{ on := 5, ground := Ground.gcOnly Departure.lateStores }], guard := none }) (v := .slice (some ⟨g, 0, none⟩) 1 1) rfl (by kernel_rfl) (by kernel_rfl) (by kernel_rfl) (fun _ _ _ h => hQ _ _ _ _ _ h) (Or.inl ⟨rfl, fun w => (BigFrame.run_move (.tmp 13) rfl w).trans (by rw [eval_other (by decide), eval_other (by decide), h13])⟩) ?_
  refine wpAny_take (i := 4) (oi := { dst := some 66, op := Op.move (Operand.tmp 15), type := 4, pos := "outright.go:24", after := #[{ on := 6, ground := Ground.gcOnly Departure.lateStores }], guard := none }) (v := y) rfl (by kernel_rfl) (by kernel_rfl) (by kernel_rfl) (fun _ _ _ h => hQ _ _ _ _ _ h) (Or.inl ⟨rfl, fun w => (BigFrame.run_move (.tmp 15) rfl w).trans (by rw [eval_other (by decide), eval_other (by decide), eval_other (by decide), h15])⟩) ?_
  refine wpAny_take (i := 2) (oi := { dst := some 64, op := Op.indexAddr 42 (Operand.tmp 63) (Operand.const (Value.int IntKind.i64 0)), type := 0, pos := "outright.go:24", after := #[{ on := 1, ground := Ground.data }, { on := 5, ground := Ground.gcOnly Departure.lateStores }], guard := none }) (v := .pointer (some ⟨g, 0, none⟩)) rfl (by kernel_rfl) (by kernel_rfl) (by kernel_rfl) (fun _ _ _ h => hQ _ _ _ _ _ h) (Or.inl ⟨rfl, fun w => by
    have e63 : ((((a.put (some 62) x).put (some 8) x).put (some 63) (.slice (some ⟨g, 0, none⟩) 1 1)).put (some 66) y).eval (.tmp 63) = .slice (some ⟨g, 0, none⟩) 1 1 := by
      rw [eval_other (by decide), eval_same (by simp only [size_put]; omega)]
    simp only [execOp, BigFrame.eval_const]
    erw [e63]
    simp only [Sem.run_bind, ix_first, Result.andThen_ok]
    rfl⟩) ?_
  refine wpAny_ready (rs := [3]) (by kernel_rfl) (by simp) ?_
  refine step_load (o := { dst := some 65, op := Op.load 38 (Operand.tmp 64), type := 38, pos := "outright.go:24", after := #[{ on := 2, ground := Ground.data }, { on := 5, ground := Ground.gcOnly Departure.lateStores }], guard := none }) rfl rfl 38 (.tmp 64) rfl g 0 (eval_same (by simp only [size_put]; omega)) cs _ RG Tryz.underlying38 rfl (by rw [hl]; exact info38) ?_
  refine wpAny_ready (rs := [6]) (by kernel_rfl) (by simp) ?_
  refine step_store (o := { dst := none, op := Op.store 38 (Operand.tmp 9) (Operand.tmp 65), type := 0, pos := "outright.go:24", after := #[{ on := 3, ground := Ground.data }, { on := 5, ground := Ground.chain }, { on := 0, ground := Ground.phase }, { on := 1, ground := Ground.phase }, { on := 2, ground := Ground.phase }, { on := 3, ground := Ground.phase }, { on := 4, ground := Ground.textOnly Departure.lateStores }, { on := 5, ground := Ground.phase }], guard := none }) rfl rfl 38 (.tmp 9) (.tmp 65) rfl z 0 cs.toArray ?_ (eval_same (by simp only [size_put]; omega)) (by simpa [hl] using TZ) (by simpa [hl] using info38) ONE ?_
  · rw [eval_other (by decide), eval_other (by decide), eval_other (by decide), eval_other (by decide), eval_other (by decide), eval_other (by decide), h9]
  have E66 : (((((((a.put (some 62) x).put (some 8) x).put (some 63) (.slice (some ⟨g, 0, none⟩) 1 1)).put (some 66) y).put (some 64) (.pointer (some ⟨g, 0, none⟩))).put (some 65) (.agg cs.toArray)).put none undef).eval (.tmp 66) = y := by
    rw [put_none, eval_other (by decide), eval_other (by decide), eval_same (by simp only [size_put]; omega)]
  refine wpAny_take (i := 7) (oi := { dst := some 10, op := Op.assign (Operand.tmp 66), type := 4, pos := "outright.go:24", after := #[{ on := 4, ground := Ground.data }, { on := 6, ground := Ground.chain }, { on := 0, ground := Ground.phase }, { on := 1, ground := Ground.phase }, { on := 2, ground := Ground.phase }, { on := 3, ground := Ground.phase }, { on := 4, ground := Ground.phase }, { on := 5, ground := Ground.phase }, { on := 6, ground := Ground.phase }], guard := none }) (v := y) rfl (by kernel_rfl) (by kernel_rfl) (by kernel_rfl) (fun _ _ _ h => hQ _ _ _ _ _ h) (Or.inl ⟨rfl, fun w => (BigFrame.run_assign (.tmp 66) rfl w).trans (congrArg (fun v => Result.ok (Next.value v) w) E66)⟩) ?_
  refine wpAny_done (by kernel_rfl) ?_ _
  exact h
end Go.Proofs.YtmlnglillgplfaaGreat.Cl
