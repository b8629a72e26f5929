import Derived.Test.YthajboipnjjgfaaLyD
import Derived.Deep.RegionHeldLaw
namespace Go.Proofs.Ythajboipnjjgfaa.Ly
open Go.RowKit Go.Maps
set_option linter.unusedVariables false

/-- an append whose run is known, in a region that draws -/
theorem step_append_row {P : Program} {ops : Array Oper} {o : Oper} {a : Act} {w : World} {K : Act → World → Prop} {Q : Exit → Act → World → Prop} {E : Prop}
    (hg : o.guard = none) (s x : Operand) (t u : TypeId) (hop : o.op = Op.call { callee := Callee.builtin Builtin.append, args := #[s, x], argTypes := #[t, u] })
    (v y : Value) (hs : a.eval s = v) (hx : a.eval x = y) (v' : Value) (w' : World) (hrun : (Builtin.append_ #[t, u] o.type #[v, y]).run P w = .ok v' w')
    (hK : K (a.put o.dst v') w') : if Region.wanted o (yielded ops a.tmps) = true then Oper.wp P o a w K Q else E := by
  have hw : Region.wanted o (yielded ops a.tmps) = true := by simp [Region.wanted, hg]
  rw [if_pos hw]
  unfold Oper.wp execOp
  simp only [hop, resolve, invoke, builtin, Sem.run_bind, Sem.run_pure, Result.andThen_ok, List.map_toArray, List.map_cons, List.map_nil, hs, hx, hrun]
  exact hK

theorem info38 : (Try.prog.info? 38).map (fun i => (i.zero, i.size, i.bytes)) = some (some (.agg #[.int .u8 0, .int .u8 0, .slice none 0 0]), 3, 32) := by kernel_rfl

section
variable {B b bm nb : Nat} {w w' : World} {room : Int} {D : DataW Unit} {v : Value} {c : Ct} {L : List Gm}

theorem takeIn_long (h : Nt B w b bm nb room D v c L) (f t : Int) (d : Value) (ys : List Int) (hr : Rd w d ys) (hy : ys.length = 0 ∨ 1024 < ys.length) :
    Calls Try.prog 42 #[.pointer (some ⟨b, 0, none⟩), .agg #[.int .u8 f, .int .u8 t, d]] w fun e w' => e = .returned (.int .i64 51) ∧ Kp Nu w w' := by
  obtain ⟨ad, cap, hd⟩ := hr.slice
  subst hd
  rcases hy with hy | hy
  · rw [hy]
    go_enter Try.func42, Try.ntmps42
    go_wp2
    go_ret
    exact ⟨rfl, (Kp.refl _ _).andAlloc _⟩
  · have h1 : ¬ (ys.length : Int) < 1 := by omega
    have h2 : (ys.length : Int) > 1024 := by omega
    generalize ys.length = N at *
    clear hy
    go_enter Try.func42, Try.ntmps42
    go_wp2
    go_ret
    exact ⟨rfl, (Kp.refl _ _).andAlloc _⟩

theorem takeIn_bar (h : Nt B w b bm nb room D v c L) (f t : Int) (f0 : 0 ≤ f) (f1 : f < 256) (t0 : 0 ≤ t) (t1 : t < 256) (d : Value) (ys : List Int) (hr : Rd w d ys) (hy0 : 0 < ys.length) (hy : ys.length ≤ 1024) (hbar : bar D f t = true) (hc0 : 0 ≤ c.b) (hc1 : c.b < 4611686018427387904) :
    Calls Try.prog 42 #[.pointer (some ⟨b, 0, none⟩), .agg #[.int .u8 f, .int .u8 t, d]] w fun e w' => e = .returned (.int .i64 53) ∧ Nt B w' b bm nb room D v { c with b := c.b + 1 } L ∧ Kp (fp b bm v) w w' := by
  obtain ⟨ad, cap, hd⟩ := hr.slice
  have h1 : ¬ (ys.length : Int) < 1 := by omega
  have h2 : ¬ (ys.length : Int) > 1024 := by omega
  have K1 := Kp.alloc w (.cells #[.int .u8 f, .int .u8 t, d] 38) Nu
  have BA := bars_any (h.nu K1) f t f0 f1 t0 t1 d ad _ cap hd
  rw [hbar] at BA
  subst hd
  generalize ys.length = N at *
  clear hy hy0 hr
  go_enter Try.func42, Try.ntmps42
  go_wp2_with fail
  refine BA.mono ?_; rintro e w2 ⟨rfl, hk2⟩
  have h3 := h.nu (K1.andNu hk2)
  have c9 := h3.c9
  have f9 := free3 h3.blk 9
  have kk := K1.andNu hk2
  clear BA hk2 K1
  go_wp2
  go_ret
  refine ⟨rfl, h3.set 9 _ rfl, fp_set (kk.mono (fun _ _ h => h.elim)) _ _⟩
end
end Go.Proofs.Ythajboipnjjgfaa.Ly
