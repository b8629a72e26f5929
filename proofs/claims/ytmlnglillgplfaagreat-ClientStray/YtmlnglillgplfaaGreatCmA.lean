import Derived.Test.YtmlnglillgplfaaGreatCtR
import Derived.Test.YtmlnglillgplfaaGreatRgO
namespace Go.Proofs.YtmlnglillgplfaaGreat.Cl
open Go.RowKit Go.Maps
set_option linter.unusedVariables false
theorem kpS {S : Nat → Prop} {w w' : World} (h : Rg.Kp S w w') : Kp S w w' := ⟨h.os, h.tape, h.output, h.size, h.block⟩
/-- the table behind an Assign -/
def Hnt (B : Nat) (w : World) (hb : Nat) (L : List Rg.Sg) (lo hi to : Int) : Prop := ∃ tv L', Rg.Tb B w hb 64 tv L' ∧ ((L.length : Int) + Rg.costB L lo hi to ≤ 64 → L' = Rg.asg L lo hi to)
theorem assign_some {B b : Nat} {w : World} {v : Value} {L : List Rg.Sg} (h : Rg.Tb B w b 64 v L) (hBw : B ≤ w.heap.size) (lo hi o : Int) (k0 : 0 ≤ lo) (hlh : lo ≤ hi) (k1 : hi < 18446744073709551616) (o0 : 0 ≤ o) (ho : o < 16) :
    Calls Tryz.prog 119 #[.pointer (some ⟨b, 0, none⟩), .int .u64 lo, .int .u64 hi, .int .u8 o] w fun e w' => ∃ c, e = .returned (.int .i64 c) ∧ Hnt B w' b L lo hi o ∧ Kp (fun k => k = b) w w' := by
  by_cases hfit : (L.length : Int) + Rg.costB L lo hi o ≤ 64
  · refine (Rg.assign_ok h lo hi o k0 hlh k1 o0 ho hfit hBw).mono ?_
    rintro e w' ⟨rfl, v', hT, hk⟩
    exact ⟨0, rfl, ⟨v', _, hT, fun _ => rfl⟩, kpS hk⟩
  · refine (Rg.assign_full h lo hi o k0 hlh k1 ho (by omega)).mono ?_
    rintro e w' ⟨rfl, hk⟩
    exact ⟨61, rfl, ⟨v, L, h.nu hk, fun hf => absurd hf hfit⟩, (kpR hk).mono (fun _ _ h => h.elim)⟩
theorem isHost_any {w : World} {b : Nat} {s : Cs} (h : CB w b s) (a : Int) (a0 : 0 ≤ a) (a1 : a < 256) : Calls Tryz.prog 58 #[.pointer (some ⟨b, 0, none⟩), .int .u8 a] w fun e w' => e = .returned (.bool (decide (a < s.hosts))) ∧ w' = w := by
  have c := h.c_hosts
  have hw : IntKind.i64.wrap a = a := by
    simp only [IntKind.wrap, IntKind.signed, IntKind.bits]
    first | omega | (simp; omega)
  clear h
  go_enter Tryz.func58, Tryz.ntmps58
  go_wp2
  go_ret
  exact ⟨rfl, rfl⟩
set_option maxHeartbeats 1000000 in
theorem taker7 (w : World) : Calls Tryz.prog 57 #[.int .u8 7] w fun e w' => e = .returned (.func (.func 94) #[] #[]) ∧ Kp Nu w w' := by
  go_enter Tryz.func57, Tryz.ntmps57
  go_wp2
  go_ret
  exact ⟨rfl, (Kp.alloc w _ Nu)⟩
theorem unit193 (w : World) : (zeroValue 193).run Tryz.prog w = .ok (.agg #[]) w := by kernel_rfl
theorem Am.look {w : World} {mb nb : Nat} {D : DataW Unit} (h : Am w mb nb D) {to : Int} (t0 : 0 ≤ to) (t1 : to < 256) :
    (Instr.lookup 120 (.map (some mb)) (.int .u8 to) true).run Tryz.prog w = .ok (.tuple #[.agg #[], .bool (Maps.has D (Lit.int .u8 to))]) w := by
  obtain ⟨v, ps, hrun, hv⟩ := World.ownsMap.look_ok h hostKeyed Tryz.underlying120 (unit193 w) unitElem_mk (key_to t0 t1)
  obtain ⟨rfl, _⟩ := unitElem_inv hv
  exact hrun
/-- the client stands where its table has turned -/
theorem Cl.tb {w w' : World} {b nb B : Nat} {s : Cs} {D : DataW Unit} {V O : List Int} {tv : Value} {L : List Rg.Sg} (h : Cl w b s nb D V O) (hT : Rg.Tb B w s.hb 64 tv L) (k : Kp (fun i => i = s.hb) w w') : Cl w' b s nb D V O := by
  have nb5 : ∀ i, i = s.hb → ∀ c, w.heap[i]? ≠ some (.cells c 5 (0, 0)) := fun i hi c hx => by
    rw [hi, hT.blk] at hx
    simp only [Option.some.injEq, Obj.cells.injEq] at hx
    exact absurd hx.2.1 (by decide)
  exact ⟨h.cb.kp k (fun e => tb_ne hT h.cb (by decide) (show b = s.hb from e).symm), h.am.keep (k.block _ h.am.lt (fun e => tb_nem hT h.am (show s.mb = s.hb from e).symm)), h.v.kp k nb5, h.o.kp k nb5, h.lv, h.lo⟩
theorem Hnt.nu {B : Nat} {w w' : World} {hb : Nat} {L : List Rg.Sg} {lo hi to : Int} (h : Hnt B w hb L lo hi to) (k : Kp Nu w w') : Hnt B w' hb L lo hi to := by
  obtain ⟨tv, L', hT, hf⟩ := h
  exact ⟨tv, L', hT.nu (kpR' k), hf⟩
theorem Hnt.cl {B b nb : Nat} {w w' : World} {s : Cs} {D : DataW Unit} {hb : Nat} {L : List Rg.Sg} {lo hi to : Int} (h : Hnt B w hb L lo hi to) (hc : CB w b s) (hm : Am w s.mb nb D) (k : Kp (fun i => i = b ∨ i = s.mb) w w') : Hnt B w' hb L lo hi to := by
  obtain ⟨tv, L', hT, hf⟩ := h
  exact ⟨tv, L', tb_cl hT hc hm k, hf⟩
end Go.Proofs.YtmlnglillgplfaaGreat.Cl
