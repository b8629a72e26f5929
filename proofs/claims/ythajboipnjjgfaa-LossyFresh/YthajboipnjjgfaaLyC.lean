import Derived.Test.YthajboipnjjgfaaLyB
import Derived.Deep.RegionHeld
namespace Go.Proofs.Ythajboipnjjgfaa.Ly
open Go.RowKit Go.Maps
set_option linter.unusedVariables false

section
variable {B b bm nb : Nat} {w w' : World} {room : Int} {D : DataW Unit} {v : Value} {c : Ct} {L : List Gm}

theorem num_any (n : Int) (w : World) : Calls Try.prog 17 #[.int .i64 n] w fun e w' => e = .returned (.int .i64 n) ∧ w' = w := by
  go_enter Try.func17, Try.ntmps17
  go_wp2
  go_ret
  exact ⟨rfl, rfl⟩
theorem mapNe (w : World) (k : Nat) : (binOp .neq 75 (.map (some k)) (.map none)).run Try.prog w = .ok (.bool true) w := by kernel_rfl
theorem made_any (h : Nt B w b bm nb room D v c L) : Calls Try.prog 40 #[.pointer (some ⟨b, 0, none⟩)] w fun e w' => e = .returned (.bool true) ∧ w' = w := by
  have c2 := h.c2
  have nn := mapNe
  go_enter Try.func40, Try.ntmps40
  go_wp2
  go_ret
  exact ⟨rfl, rfl⟩
theorem made_nil (w : World) : Calls Try.prog 40 #[.pointer none] w fun e w' => e = .returned (.bool false) ∧ w' = w := by
  go_enter Try.func40, Try.ntmps40
  go_wp2
  go_ret
  exact ⟨rfl, rfl⟩
theorem outside_any (a : Int) (w : World) : Calls Try.prog 41 #[.int .u8 a] w fun e w' => e = .returned (.bool (decide (33 ≤ a))) ∧ w' = w := by
  go_enter Try.func41, Try.ntmps41
  go_wp2
  go_ret
  exact ⟨rfl, rfl⟩
theorem linkOf_any (f t : Int) (d : Value) (ad : Option Addr) (n cap : Nat) (hd : d = .slice ad n cap) (w : World) : Calls Try.prog 63 #[.agg #[.int .u8 f, .int .u8 t, d]] w fun e w' => e = .returned (.agg #[.int .u8 f, .int .u8 t]) ∧ Kp Nu w w' := by
  subst hd
  go_enter Try.func63, Try.ntmps63
  go_wp2
  exact bodyPost_ret (v := .agg #[.int .u8 f, .int .u8 t]) (by simp [results, Try.results63, go_sem]) rfl ⟨rfl, ((Kp.refl Nu w).andAlloc _).andAlloc _⟩

/-- is the link barred? -/
def bar (D : DataW Unit) (f t : Int) : Bool := Maps.has D (lk f t)

theorem bars_look {W : World} (h : w.ownsMap Try.prog 86 unitElem bm nb D) (k : Kp Nu w W) {f t : Int} (f0 : 0 ≤ f) (f1 : f < 256) (t0 : 0 ≤ t) (t1 : t < 256) :
    (Instr.lookup 75 (.map (some bm)) (.agg #[.int .u8 f, .int .u8 t]) true).run Try.prog W = .ok (.tuple #[.agg #[], .bool (bar D f t)]) W := by
  have h' : W.ownsMap Try.prog 86 unitElem bm nb D := by
    obtain ⟨es, clock, hb, r⟩ := h
    exact ⟨es, clock, (k.block bm (blk_lt hb) (fun h => h)).trans hb, r⟩
  obtain ⟨v, ps, hrun, hv⟩ := h'.look_ok keyed Try.underlying75 (unit92 W) unitElem_mk (key_lk f0 f1 t0 t1)
  obtain ⟨rfl, _⟩ := unitElem_inv hv
  exact hrun

theorem cell3 {w : World} {b : Nat} {x y z : Value} {t : TypeId} (h : w.heap[b]? = some (.cells #[x, y, z] t (0, 0))) :
    w.cell? ⟨b, 0, none⟩ = some x ∧ w.cell? ⟨b, 1, none⟩ = some y ∧ w.cell? ⟨b, 2, none⟩ = some z := by
  refine ⟨?_, ?_, ?_⟩ <;> simp [World.cell?, h]
theorem new_at (w : World) (o : Obj) {W : World} (k : Kp Nu (w.alloc o) W) : W.heap[w.heap.size]? = some o := (k.block _ (by simp) (fun h => h)).trans (heap_alloc_new w o)

set_option maxHeartbeats 400000 in
theorem bars_any (h : Nt B w b bm nb room D v c L) (f t : Int) (f0 : 0 ≤ f) (f1 : f < 256) (t0 : 0 ≤ t) (t1 : t < 256) (d : Value) (ad : Option Addr) (n cap : Nat) (hd : d = .slice ad n cap) :
    Calls Try.prog 48 #[.pointer (some ⟨b, 0, none⟩), .agg #[.int .u8 f, .int .u8 t, d]] w fun e w' => e = .returned (.bool (bar D f t)) ∧ Kp Nu w w' := by
  have LO : ∀ w', Kp Nu (w.alloc (.cells #[.int .u8 f, .int .u8 t, d] 38)) w' → Calls Try.prog 63 #[.agg #[.int .u8 f, .int .u8 t, d]] w' fun e w2 => e = .returned (.agg #[.int .u8 f, .int .u8 t]) ∧ Kp Nu (w.alloc (.cells #[.int .u8 f, .int .u8 t, d] 38)) w2 := fun w' k => (linkOf_any f t d ad n cap hd w').mono (fun e w2 h => ⟨h.1, k.andNu h.2⟩)
  have HS : ∀ w', Kp Nu (w.alloc (.cells #[.int .u8 f, .int .u8 t, d] 38)) w' → w'.cell? ⟨b, 2, none⟩ = some (.map (some bm)) ∧ (Instr.lookup 75 (.map (some bm)) (.agg #[.int .u8 f, .int .u8 t]) true).run Try.prog w' = .ok (.tuple #[.agg #[], .bool (bar D f t)]) w' ∧ w'.cell? ⟨w.heap.size, 0, none⟩ = some (.int .u8 f) ∧ w'.cell? ⟨w.heap.size, 1, none⟩ = some (.int .u8 t) ∧ w'.cell? ⟨w.heap.size, 2, none⟩ = some d := fun w' k => ⟨(h.nu ((Kp.alloc w _ Nu).andNu k)).c2, bars_look h.map ((Kp.alloc w _ Nu).andNu k) f0 f1 t0 t1, cell3 (new_at w _ k)⟩
  have KW := Kp.refl Nu w
  have HB := hide h
  have mixed : Try.prog.follows .mixedOrders = true := by kernel_rfl
  clear h
  subst hd
  generalize bar D f t = R at *
  go_enter Try.func48, Try.ntmps48
  go_wp2_with fail
  go_region_held (fun w' => w'.cell? ⟨b, 2, none⟩ = some (.map (some bm)) ∧ (Instr.lookup 75 (.map (some bm)) (.agg #[.int .u8 f, .int .u8 t]) true).run Try.prog w' = .ok (.tuple #[.agg #[], .bool R]) w' ∧ w'.cell? ⟨w.heap.size, 0, none⟩ = some (.int .u8 f) ∧ w'.cell? ⟨w.heap.size, 1, none⟩ = some (.int .u8 t) ∧ w'.cell? ⟨w.heap.size, 2, none⟩ = some (.slice ad n cap)) (first | (refine HS _ ?_; repeat (first | assumption | exact Kp.refl _ _ | apply Kp.andAlloc | apply Kp.drew))) (first | (go_at_call 63; refine (LO _ ?_).mono ?_; (repeat (first | assumption | exact Kp.refl _ _ | apply Kp.andAlloc | apply Kp.drew)); rintro e w2 ⟨rfl, hk2⟩))
  all_goals go_wp2
  all_goals go_ret
  all_goals exact ⟨rfl, (Kp.alloc w _ Nu).andNu (by (repeat (first | assumption | exact Kp.refl _ _ | apply Kp.andAlloc | apply Kp.drew)))⟩
end
end Go.Proofs.Ythajboipnjjgfaa.Ly
