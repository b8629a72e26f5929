import Derived.Test.YtckjededijgjgaaDoorNmB
namespace Go.Proofs.YtckjededijgjgaaDoor.Nm
open Go.RowKit Go.Shelf
open Pc (P4 encP pieces Kp cut_in cut_stops kp_t kp_b kp_others)
attribute [local go_sem] Oper.semAt_some

/-- the cells of a round's piece -/
abbrev cellsP (x : P4) : List Value := [.int .i32 x.1, .int .i64 x.2.1, .int .i64 x.2.2.1, .bool x.2.2.2]

set_option maxRecDepth 100000 in
set_option maxHeartbeats 1000000 in
theorem box_turn {X Y : World} {k : Nat} {t : TypeId} {v : Value} {row : Option Nat} (h : Boxed X k t v) (hg : X.grownBy Y row) (hr : ∀ r, row = some r → ∃ o : Obj, X.heap[r]? = some o ∧ o.isCells = false) : Boxed Y k t v :=
  boxed_own k t (fun _ : Unit => v) () X Y row h hg hr

set_option maxRecDepth 100000 in
set_option maxHeartbeats 1000000 in
theorem leave {w W : World} {pl c : Int} {v0 v1 v2 : Value} (y0 : Boxed W w.heap.size 9 v0) (y1 : Boxed W (w.heap.size + 1) 3 v1) (y2 : Boxed W (w.heap.size + 1 + 1) 22 v2) (hB1 : Below w.heap.size w W) :
    KeepsOthers W (((W.setCell ⟨w.heap.size, 0, none⟩ (.string ⟨#[]⟩)).setCell ⟨w.heap.size + 1, 0, none⟩ (.int .i64 pl)).setCell ⟨w.heap.size + 1 + 1, 0, none⟩ (.int .i64 c)).drew ∧ Boxed (((W.setCell ⟨w.heap.size, 0, none⟩ (.string ⟨#[]⟩)).setCell ⟨w.heap.size + 1, 0, none⟩ (.int .i64 pl)).setCell ⟨w.heap.size + 1 + 1, 0, none⟩ (.int .i64 c)).drew w.heap.size 9 (.string ⟨#[]⟩) ∧ Boxed (((W.setCell ⟨w.heap.size, 0, none⟩ (.string ⟨#[]⟩)).setCell ⟨w.heap.size + 1, 0, none⟩ (.int .i64 pl)).setCell ⟨w.heap.size + 1 + 1, 0, none⟩ (.int .i64 c)).drew (w.heap.size + 1) 3 (.int .i64 pl) ∧ Boxed (((W.setCell ⟨w.heap.size, 0, none⟩ (.string ⟨#[]⟩)).setCell ⟨w.heap.size + 1, 0, none⟩ (.int .i64 pl)).setCell ⟨w.heap.size + 1 + 1, 0, none⟩ (.int .i64 c)).drew (w.heap.size + 1 + 1) 22 (.int .i64 c) ∧ Below w.heap.size w (((W.setCell ⟨w.heap.size, 0, none⟩ (.string ⟨#[]⟩)).setCell ⟨w.heap.size + 1, 0, none⟩ (.int .i64 pl)).setCell ⟨w.heap.size + 1 + 1, 0, none⟩ (.int .i64 c)).drew :=
  ⟨(((KeepsOthers.setCell _ _ _).trans (KeepsOthers.setCell _ _ _)).trans (KeepsOthers.setCell _ _ _)).trans (KeepsOthers.drew _),
   ((y0.set (.string ⟨#[]⟩)).other (by omega) _).other (by omega) _,
   ((y1.other (by omega) _).set (.int .i64 pl)).other (by omega) _,
   ((y2.other (by omega) _).other (by omega) _).set (.int .i64 c),
   Below.drew (((hB1.setCell (p := ⟨w.heap.size, 0, none⟩) (Nat.le_refl _) _).setCell (p := ⟨w.heap.size + 1, 0, none⟩) (by simp) _).setCell (p := ⟨w.heap.size + 1 + 1, 0, none⟩) (by simp; omega) _)⟩
theorem box_below {W W' : World} {k : Nat} {t : TypeId} {v : Value} (h : Boxed W k t v) (hb : Below W.heap.size W W') : Boxed W' k t v := (hb.block k h.lt).trans h
theorem bld_below1 {p : Value} {B b : Nat} {bs : List Value} {W W' : World} (h : Lib.BuilderAtF 80 5 B b p bs W) (hb : Below W.heap.size W W') : Lib.BuilderAtF 80 5 B b p bs W' := by
  have hlt := h.lt
  obtain ⟨hB, v, hbk, ⟨hl, ho⟩, hne⟩ := h
  refine ⟨hB, v, (hb.block b hlt).trans hbk, ⟨hl, ?_⟩, hne⟩
  rcases ho with ho | ⟨g, cap, cur, fz, e1, e2, hg, e3⟩
  · exact .inl ho
  · exact .inr ⟨g, cap, cur, fz, e1, e2, (hb.block g (Array.getElem?_eq_some_iff.1 hg).1).trans hg, e3⟩
theorem bld_below {B b : Nat} {bs : List Value} {W W' : World} (h : Lib.IsBuilderF 80 5 B b bs W) (hb : Below W.heap.size W W') : Lib.IsBuilderF 80 5 B b bs W' :=
  h.elim (fun x => .inl (bld_below1 x hb)) (fun x => .inr (bld_below1 x hb))
theorem others_below {W W' : World} (hb : Below W.heap.size W W') : KeepsOthers W W' :=
  ⟨hb.size, fun k _ hk _ => (hb.block k (Array.getElem?_eq_some_iff.1 hk).1).trans hk⟩
theorem fold_int (r v ci : Int) (c : Nat) (hci : (c : Int) = ci) (ok : Bool) (w : World) (R off cap : Nat) (hS : Lets w R off cap) (h : nameF r (c == 0) = (v, ok)) :
    Calls Tryd.prog 51 #[.int .i32 r, .bool (ci == 0)] w fun e w' => e = .returned (.tuple #[.int .i32 v, .bool ok]) ∧ Below w.heap.size w w' := by
  have e : (ci == 0) = (c == 0) := by subst hci; cases c <;> simp <;> omega
  rw [e]
  exact foldNameRune_is r v _ ok w R off cap hS h

set_option maxRecDepth 100000 in
set_option maxHeartbeats 1000000 in
theorem name_in (n : Nat) (hn : 4 ≤ n) (s : ByteArray) (hs : s.size ≤ 9223372036854775807) (hs0 : s.size ≠ 0) (w : World) (R off cap : Nat) (hS : Lets w R off cap) :
    CallsIn Fence.wide n Tryd.prog 24 #[.string s] w fun e W' => e = .returned (.tuple #[.string ⟨(nameG (pieces s) 0 []).1.toArray⟩, .int .i64 (nameG (pieces s) 0 []).2.1, .int .i64 (nameG (pieces s) 0 []).2.2]) ∧ Below w.heap.size w W' := by
  have h1 : 1 ≤ n := by omega
  have mixed : Tryd.prog.follows .mixedOrders = true := by kernel_rfl
  have hne : (s.toList == []) = false := by
    rw [beq_eq_false_iff_ne]; intro e; rw [ByteArray.toList_eq] at e
    have := congrArg List.length e
    simp at this; exact hs0 (by rw [this]; rfl)
  refine callsIn_of_wp_marks Tryd.func24 rfl trivial ?_ rfl
  simp only [Tryd.ntmps24, List.size_toArray, List.length_cons, List.length_nil, Nat.reduceAdd, Nat.reduceSub, Array.replicate_succ, Array.replicate_zero, List.push_toArray, List.append_toArray, List.nil_append, List.cons_append]
  gi_wp2_with (refine ⟨trivial, ?_⟩; gi_at_call 50; refine (cut_in _ _ _).mono ?_; rintro e w' ⟨rfl, rfl⟩)
  have x0 := (((((Boxed.new w 9 (.string ⟨#[]⟩)).alloc (.cells #[.int .i64 0] 3)).alloc (.cells #[.int .i64 0] 22)).alloc (.cells #[.pointer none, .slice none 0 0] 80)).alloc (.cells #[.int .i64 0] 3)).alloc (.cells #[.string s] 9)
  have x1 := ((((Boxed.new (w.alloc (.cells #[.string ⟨#[]⟩] 9)) 3 (.int .i64 0)).alloc (.cells #[.int .i64 0] 22)).alloc (.cells #[.pointer none, .slice none 0 0] 80)).alloc (.cells #[.int .i64 0] 3)).alloc (.cells #[.string s] 9)
  have x2 := (((Boxed.new ((w.alloc (.cells #[.string ⟨#[]⟩] 9)).alloc (.cells #[.int .i64 0] 3)) 22 (.int .i64 0)).alloc (.cells #[.pointer none, .slice none 0 0] 80)).alloc (.cells #[.int .i64 0] 3)).alloc (.cells #[.string s] 9)
  have x3 := ((Lib.IsBuilderF.of (Lib.fresh_isBuilder 80 5 (((w.alloc (.cells #[.string ⟨#[]⟩] 9)).alloc (.cells #[.int .i64 0] 3)).alloc (.cells #[.int .i64 0] 22)))).alloc (.cells #[.int .i64 0] 3)).alloc (.cells #[.string s] 9)
  have x4 := (Boxed.new ((((w.alloc (.cells #[.string ⟨#[]⟩] 9)).alloc (.cells #[.int .i64 0] 3)).alloc (.cells #[.int .i64 0] 22)).alloc (.cells #[.pointer none, .slice none 0 0] 80)) 3 (.int .i64 0)).alloc (.cells #[.string s] 9)
  have x5 := Boxed.new (((((w.alloc (.cells #[.string ⟨#[]⟩] 9)).alloc (.cells #[.int .i64 0] 3)).alloc (.cells #[.int .i64 0] 22)).alloc (.cells #[.pointer none, .slice none 0 0] 80)).alloc (.cells #[.int .i64 0] 3)) 9 (.string s)
  simp only [World.size_alloc] at x1 x2 x3 x4 x5
  have hB3 : Below w.heap.size w ((((((w.alloc (.cells #[.string ⟨#[]⟩] 9)).alloc (.cells #[.int .i64 0] 3)).alloc (.cells #[.int .i64 0] 22)).alloc (.cells #[.pointer none, .slice none 0 0] 80)).alloc (.cells #[.int .i64 0] 3)).alloc (.cells #[.string s] 9)) := ((((((Below.refl _ w).alloc (Nat.le_refl _) _).alloc (by simp) _).alloc (by simp; omega) _).alloc (by simp; omega) _).alloc (by simp; omega) _).alloc (by simp; omega) _
  have hsz3 : ((((((w.alloc (.cells #[.string ⟨#[]⟩] 9)).alloc (.cells #[.int .i64 0] 3)).alloc (.cells #[.int .i64 0] 22)).alloc (.cells #[.pointer none, .slice none 0 0] 80)).alloc (.cells #[.int .i64 0] 3)).alloc (.cells #[.string s] 9)).heap.size = w.heap.size + 6 := by simp
  obtain ⟨W0, hW0⟩ : ∃ W0, (((((w.alloc (.cells #[.string ⟨#[]⟩] 9)).alloc (.cells #[.int .i64 0] 3)).alloc (.cells #[.int .i64 0] 22)).alloc (.cells #[.pointer none, .slice none 0 0] 80)).alloc (.cells #[.int .i64 0] 3)).alloc (.cells #[.string s] 9) = W0 := ⟨_, rfl⟩
  rw [hW0] at x0 x1 x2 x3 x4 x5 hB3 hsz3 ⊢
  clear hW0
  refine wpIn_rangeFunc_ownH rfl h1 (gf := 89) (lb := #[.pointer (some ⟨w.heap.size + 1 + 1 + 1 + 1 + 1, 0, none⟩)]) rfl trivial (enters_of Tryd.func89 (by kernel_rfl) rfl)
    (cut_stops (n - 1) (by omega) (w.heap.size + 1 + 1 + 1 + 1 + 1) s hs W0 x5) kp_t kp_b (Below.refl _ _) (fun _ => rfl)
    (fun pre W => ((Boxed W w.heap.size 9 (.string ⟨#[]⟩) ∧ Boxed W (w.heap.size + 1) 3 (.int .i64 0) ∧ Boxed W (w.heap.size + 1 + 1) 22 (.int .i64 0) ∧ Boxed W (w.heap.size + 1 + 1 + 1 + 1) 3 (.int .i64 (pre.length : Int)) ∧ Boxed W (w.heap.size + 1 + 1 + 1 + 1 + 1) 9 (.string s)) ∧ (∃ acc : List UInt8, Lib.IsBuilderF 80 5 (w.heap.size + 1 + 1 + 1) (w.heap.size + 1 + 1 + 1) (Lib.byteCells acc) W ∧ (∀ rest, nameG (pre ++ rest) 0 [] = nameG rest pre.length acc) ∧ acc.length ≤ 4 * pre.length ∧ pre.length ≤ 24)) ∧ Below w.heap.size w W) (fun c pre W => (c = Code.ret ∧ ∃ at_ e : Int, Boxed W w.heap.size 9 (.string ⟨#[]⟩) ∧ Boxed W (w.heap.size + 1) 3 (.int .i64 at_) ∧ Boxed W (w.heap.size + 1 + 1) 22 (.int .i64 e) ∧ ∀ rest, nameG (pre ++ rest) 0 [] = ([], at_, e)) ∧ Below w.heap.size w W)
    (OwnFrom.and (Own.from (fun pre X Y row hs hg hr => ?_) _) (ownFrom_below (Nat.le_refl _) (by omega)))
    (fun c => OwnFrom.and (Own.from (fun pre X Y row hs hg hr => ?_) _) (ownFrom_below (Nat.le_refl _) (by omega)))
    ⟨⟨⟨x0, x1, x2, x4, x5⟩, [], x3, fun rest => rfl, Nat.le_refl _, by simp⟩, hB3⟩
    (fun x a' W => ∃ Bx, W.heap[Bx]? = some (.cells (cellsP x).toArray 55) ∧ a' = { tmps := #[.string s, undef, .pointer (some ⟨w.heap.size, 0, none⟩), .pointer (some ⟨w.heap.size + 1, 0, none⟩), .pointer (some ⟨w.heap.size + 1 + 1, 0, none⟩), .pointer (some ⟨w.heap.size + 1 + 1 + 1, 0, none⟩), .pointer (some ⟨w.heap.size + 1 + 1 + 1 + 1, 0, none⟩), .pointer (some ⟨Bx, 0, none⟩), undef, undef, .string s, .bool false, .string s, .func (.func 89) #[] #[.pointer (some ⟨w.heap.size + 1 + 1 + 1 + 1 + 1, 0, none⟩)], encP x, undef, undef, undef, undef, undef, undef, undef, undef, undef, undef, undef, undef, undef, undef, undef, undef, undef, undef, undef, undef, undef, undef, undef, undef, undef], defers := [] })
    (fun x a' _ X Y row hs hg hr => by
      obtain ⟨Bx, h1, h2⟩ := hs
      refine ⟨Bx, (hg.block Bx (Array.getElem?_eq_some_iff.1 h1).1 (fun e => ?_)).trans h1, h2⟩
      obtain ⟨_, o, ho, hc⟩ := hr Bx e.symm
      rw [h1] at ho; cases ho; cases hc)
    ?assign ?body ?done ?stop
  · obtain ⟨⟨y0, y1, y2, y4, y5⟩, acc, yb, hp⟩ := hs
    exact ⟨⟨box_turn y0 hg hr, box_turn y1 hg hr, box_turn y2 hg hr, box_turn y4 hg hr, box_turn y5 hg hr⟩, acc, bld_turn yb hg hr, hp⟩
  · obtain ⟨rfl, a1, e1, y0, y1, y2, hp⟩ := hs
    exact ⟨rfl, a1, e1, box_turn y0 hg hr, box_turn y1 hg hr, box_turn y2 hg hr, hp⟩
  case assign =>
    rintro l pre x W K ⟨⟨⟨y0, y1, y2, y4, y5⟩, acc, yb, hp⟩, hB1⟩ hK
    simp only [encP]
    gi_wp2
    exact hK _ _ ((KeepsOthers.alloc _ _).from _) (kp_others (KeepsOthers.alloc _ _) (fun v hv => hv.alloc _)) ⟨⟨⟨y0.alloc _, y1.alloc _, y2.alloc _, y4.alloc _, y5.alloc _⟩, acc, yb.alloc _, hp⟩, hB1.alloc hB1.size _⟩ ⟨W.heap.size, World.alloc_heap_new W _, rfl⟩
  case body =>
    rintro l pre x a' W hl _ ⟨⟨⟨y0, y1, y2, y4, y5⟩, acc, yb, hrest, hacc, hpl⟩, hB1⟩ ⟨Bx, hX, rfl⟩ hlt
    obtain ⟨r, pl, sz, br⟩ := x
    have p0 : W.cell? ⟨Bx, 0, none⟩ = some (.int .i32 r) := by simp [World.cell?, hX]
    have p1 : W.cell? ⟨Bx, 1, none⟩ = some (.int .i64 pl) := by simp [World.cell?, hX]
    have p3 : W.cell? ⟨Bx, 3, none⟩ = some (.bool br) := by simp [World.cell?, hX]
    have q0 : Bx ≠ w.heap.size := fun e => by
      have : W.heap[w.heap.size]? = some (.cells #[.string ⟨#[]⟩] 9 (0, 0)) := y0
      rw [← e, hX] at this; cases this
    have k0 := y0.cell
    have k1 := y1.cell
    have k2 := y2.cell
    have z0 := y0.frozen
    have z1 := y1.frozen
    have z2 := y2.frozen
    cases br with
    | true =>
      have hx : ∀ rest, nameG ((pre ++ [(r, pl, sz, true)]) ++ rest) 0 [] = ([], pl, 13) := by
        intro rest; rw [List.append_assoc, hrest]; rfl
      have HX := Pc.hide hx
      clear hx hrest
      obtain ⟨g1, g2, g3, g4, g5⟩ := leave (pl := pl) (c := 13) y0 y1 y2 hB1
      gi_wp2
      gi_region_o
      all_goals gi_wp2
      all_goals exact ⟨g1.from _, ⟨rfl, pl, 13, g2, g3, g4, HX.out⟩, g5⟩
    | false =>
      obtain ⟨c, hc⟩ : ∃ c, pre.length = c := ⟨_, rfl⟩
      rw [hc] at y4 hrest hacc hpl hlt
      obtain ⟨ci, hci⟩ : ∃ ci : Int, (c : Int) = ci := ⟨_, rfl⟩
      rw [hci] at y4
      have hci0 : 0 ≤ ci := by omega
      have hci1 : ci ≤ 24 := by omega
      have k4 := y4.cell
      have z4 := y4.frozen
      obtain ⟨v, ok, hf⟩ : ∃ v ok, nameF r (c == 0) = (v, ok) := ⟨_, _, rfl⟩
      have C := fold_int r v ci c hci ok W R off cap (hS.below hB1 (Nat.le_refl _)) hf
      have HF := Pc.hide hf
      clear hf
      have HR := Pc.hide hrest
      clear hrest
      cases ok with
      | false =>
        have hx : ∀ rest, nameG ((pre ++ [(r, pl, sz, false)]) ++ rest) 0 [] = ([], pl, 17) := by
          intro rest; rw [List.append_assoc, HR.out]; simp [nameG, HF.out]
        have HX := Pc.hide hx
        clear hx
        gi_wp2_with fail
        refine ⟨trivial, fun _ => by omega, (CallsIn.inRound l (callsIn_wide.2 C)).mono ?_⟩
        rintro e W1 ⟨rfl, hb⟩
        have j0 := box_below y0 hb
        have j1 := box_below y1 hb
        have j2 := box_below y2 hb
        have jX : W1.heap[Bx]? = some (.cells (cellsP (r, pl, sz, false)).toArray 55) := (hb.block Bx (Array.getElem?_eq_some_iff.1 hX).1).trans hX
        have p1' : W1.cell? ⟨Bx, 1, none⟩ = some (.int .i64 pl) := by simp [World.cell?, jX]
        have k0' := j0.cell
        have k1' := j1.cell
        have k2' := j2.cell
        have z0' := j0.frozen
        have z1' := j1.frozen
        have z2' := j2.frozen
        have hB2 : Below w.heap.size w W1 := hB1.trans (hb.mono hB1.size)
        obtain ⟨g1, g2, g3, g4, g5⟩ := leave (pl := pl) (c := 17) j0 j1 j2 hB2
        have q0' := q0
        gi_wp2
        gi_region_o
        all_goals gi_wp2
        all_goals exact ⟨((others_below hb).trans g1).from _, ⟨rfl, pl, 17, g2, g3, g4, HX.out⟩, g5⟩
      | true =>
        have hv := nameF_bounds HF.out
        have hv0 : -2147483648 ≤ v := by omega
        have hv1 : v ≤ 2147483647 := by omega
        clear hv
        by_cases h24 : ci = 24
        · have hx : ∀ rest, nameG ((pre ++ [(r, pl, sz, false)]) ++ rest) 0 [] = ([], pl, 17) := by
            intro rest
            have : c = 24 := by omega
            rw [List.append_assoc, HR.out]; simp [nameG, this]
          have HX := Pc.hide hx
          clear hx
          subst h24
          gi_wp2_with fail
          refine ⟨trivial, fun _ => by omega, (CallsIn.inRound l (callsIn_wide.2 C)).mono ?_⟩
          rintro e W1 ⟨rfl, hb⟩
          have j0 := box_below y0 hb
          have j1 := box_below y1 hb
          have j2 := box_below y2 hb
          have j4 := box_below y4 hb
          have jX : W1.heap[Bx]? = some (.cells (cellsP (r, pl, sz, false)).toArray 55) := (hb.block Bx (Array.getElem?_eq_some_iff.1 hX).1).trans hX
          have p1' : W1.cell? ⟨Bx, 1, none⟩ = some (.int .i64 pl) := by simp [World.cell?, jX]
          have k0' := j0.cell
          have k1' := j1.cell
          have k2' := j2.cell
          have k4' := j4.cell
          have z0' := j0.frozen
          have z1' := j1.frozen
          have z2' := j2.frozen
          have hB2 : Below w.heap.size w W1 := hB1.trans (hb.mono hB1.size)
          obtain ⟨g1, g2, g3, g4, g5⟩ := leave (pl := pl) (c := 17) j0 j1 j2 hB2
          gi_wp2
          gi_region_o
          all_goals gi_wp2
          all_goals exact ⟨((others_below hb).trans g1).from _, ⟨rfl, pl, 17, g2, g3, g4, HX.out⟩, g5⟩
        · have h24' : (ci == 24) = false := beq_eq_false_iff_ne.2 h24
          have hx : ∀ rest, nameG ((pre ++ [(r, pl, sz, false)]) ++ rest) 0 [] = nameG rest (c + 1) (acc ++ Lib.encodeRune v) := by
            intro rest
            have : c ≠ 24 := by omega
            rw [List.append_assoc, HR.out]; simp [nameG, HF.out, this]
          have HX := Pc.hide hx
          clear hx
          gi_wp2_with fail
          refine ⟨trivial, fun _ => by omega, (CallsIn.inRound l (callsIn_wide.2 C)).mono ?_⟩
          rintro e W1 ⟨rfl, hb⟩
          have j0 := box_below y0 hb
          have j1 := box_below y1 hb
          have j2 := box_below y2 hb
          have j4 := box_below y4 hb
          have j5 := box_below y5 hb
          have jb := bld_below yb hb
          have k4' := j4.cell
          have hB2 : Below w.heap.size w W1 := hB1.trans (hb.mono hB1.size)
          have hsz1 : w.heap.size + 1 + 1 + 1 ≤ W1.heap.size := by have := j4.lt; omega
          have hal : (Lib.byteCells acc).length + 4 ≤ 140737488355328 := by rw [Lib.byteCells_length]; omega
          gi_wp2_with fail
          refine ⟨trivial, fun _ => by omega, (CallsIn.inRound l (callsIn_wide.2 (Bu.writeRune _ _ _ v hv0 hv1 W1 jb hal hsz1))).mono ?_⟩
          rintro e W2 ⟨rfl, hb2, hbl2, hk2⟩
          have i0 := boxed_of hk2 j0 (by decide) (by omega)
          have i1 := boxed_of hk2 j1 (by decide) (by omega)
          have i2 := boxed_of hk2 j2 (by decide) (by omega)
          have i4 := boxed_of hk2 j4 (by decide) (by omega)
          have i5 := boxed_of hk2 j5 (by decide) (by omega)
          have k4'' := i4.cell
          have z4'' := i4.frozen
          gi_wp2
          have e2 := others_of hk2 hbl2.size jb
          have hko := ((others_below hb).trans e2).trans (KeepsOthers.setCell W2 ⟨w.heap.size + 1 + 1 + 1 + 1, 0, none⟩ (.int .i64 (ci + 1)))
          have hlen : (pre ++ [((r, pl, sz, false) : P4)]).length = c + 1 := by simp [hc]
          have hbb : Lib.IsBuilderF 80 5 (w.heap.size + 1 + 1 + 1) (w.heap.size + 1 + 1 + 1) (Lib.byteCells (acc ++ Lib.encodeRune v)) W2 := by rw [Lib.byteCells_append, Lib.byteCells_encodeRune]; exact .inr hb2
          have hel : (Lib.encodeRune v).length ≤ 4 := by have := Lib.runeCells_le v; rw [← Lib.byteCells_encodeRune, Lib.byteCells_length] at this; omega
          refine ⟨hko.from _, kp_others hko (fun u hu => (boxed_of hk2 (box_below hu hb) (by decide) (by omega)).other (by omega) _), ⟨⟨i0.other (by omega) _, i1.other (by omega) _, i2.other (by omega) _, ?_, i5.other (by omega) _⟩, acc ++ Lib.encodeRune v, bld_set hbb i4 (by decide) (by omega) _, ?_, ?_, ?_⟩, ?_⟩
          · rw [hlen, show ((c + 1 : Nat) : Int) = ci + 1 by omega]; exact i4.set _
          · rw [hlen]; exact HX.out
          · rw [hlen, List.length_append]; omega
          · rw [hlen]; omega
          · exact (hB2.trans (hbl2.mono (by omega))).setCell (p := ⟨w.heap.size + 1 + 1 + 1 + 1, 0, none⟩) (by simp; omega) _
  case done =>
    rintro D ys W hD rfl ⟨⟨⟨y0, y1, y2, y4, y5⟩, acc, yb, hrest, hacc, hpl⟩, hB1⟩ hK
    have hres : nameG (pieces s) 0 [] = (acc, 0, 0) := by
      have := hrest []
      rw [List.append_nil] at this; rw [this]; rfl
    have HR := Pc.hide hres
    clear hrest hres
    have hsz1 : w.heap.size + 1 + 1 + 1 ≤ W.heap.size := by have := y4.lt; omega
    gi_wp2_with fail
    refine ⟨trivial, (callsIn_wide.2 (Bu.string _ _ acc W yb hsz1)).mono ?_⟩
    rintro e W1 ⟨rfl, hb1, hbl1, hk1⟩
    have i0 := boxed_of hk1 y0 (by decide) (by omega)
    have i1 := boxed_of hk1 y1 (by decide) (by omega)
    have i2 := boxed_of hk1 y2 (by decide) (by omega)
    have k0 := i0.cell
    have k1 := i1.cell
    have k2 := i2.cell
    have z0 := i0.frozen
    have z1 := i1.frozen
    have z2 := i2.frozen
    have hK1 := (others_of hk1 hbl1.size yb).same D _ hK rfl
    gi_wp2
    have hK2 := (((KeepsOthers.setCell W1 ⟨w.heap.size, 0, none⟩ (.string ⟨acc.toArray⟩)).trans (KeepsOthers.setCell _ ⟨w.heap.size + 1, 0, none⟩ (.int .i64 0))).trans (KeepsOthers.setCell _ ⟨w.heap.size + 1 + 1, 0, none⟩ (.int .i64 0))).same D _ hK1 rfl
    have f0 := ((((i0.set (.string ⟨acc.toArray⟩)).other (B' := w.heap.size + 1) (by omega) (.int .i64 0)).other (B' := w.heap.size + 1 + 1) (by omega) (.int .i64 0)).kept (grownBy_putObj' _ D (.deferred none)) (fun e => by cases e; omega)).cell
    have f1 := ((((i1.other (B' := w.heap.size) (by omega) (.string ⟨acc.toArray⟩)).set (.int .i64 0)).other (B' := w.heap.size + 1 + 1) (by omega) (.int .i64 0)).kept (grownBy_putObj' _ D (.deferred none)) (fun e => by cases e; omega)).cell
    have f2 := ((((i2.other (B' := w.heap.size) (by omega) (.string ⟨acc.toArray⟩)).other (B' := w.heap.size + 1) (by omega) (.int .i64 0)).set (.int .i64 0)).kept (grownBy_putObj' _ D (.deferred none)) (fun e => by cases e; omega)).cell
    have hB2 : Below w.heap.size w W1 := hB1.trans (hbl1.mono (by omega))
    refine ⟨by simp, .inl ⟨_, _, rfl, run_takeDeferred hK2, ?_⟩⟩
    refine ⟨.tuple #[.string ⟨acc.toArray⟩, .int .i64 0, .int .i64 0], ?_, by rw [HR.out], (((hB2.setCell (p := ⟨w.heap.size, 0, none⟩) (Nat.le_refl _) _).setCell (p := ⟨w.heap.size + 1, 0, none⟩) (by simp) _).setCell (p := ⟨w.heap.size + 1 + 1, 0, none⟩) (by simp; omega) _).trans (belowK_b (w := w) (Nat.le_refl _) _ D _ _ (by omega) hK2 rfl rfl)⟩
    simp [results, Tryd.results24, go_sem, f0, f1, f2]
  case stop =>
    rintro D c pre W hD hpre ⟨⟨rfl, pl, e, y0, y1, y2, hrest⟩, hB1⟩ hK
    obtain ⟨rest, hp⟩ := hpre
    have hres : nameG (pieces s) 0 [] = ([], pl, e) := by rw [← hp]; exact hrest rest
    have HR := Pc.hide hres
    clear hrest hres
    gi_wp2
    have f0 := (y0.kept (grownBy_putObj' _ D (.deferred none)) (fun e => by cases e; omega)).cell
    have f1 := (y1.kept (grownBy_putObj' _ D (.deferred none)) (fun e => by cases e; omega)).cell
    have f2 := (y2.kept (grownBy_putObj' _ D (.deferred none)) (fun e => by cases e; omega)).cell
    refine ⟨by simp, .inl ⟨_, _, rfl, run_takeDeferred hK, ?_⟩⟩
    refine ⟨.tuple #[.string ⟨#[]⟩, .int .i64 pl, .int .i64 e], ?_, by rw [HR.out], hB1.trans (belowK_b (w := w) (Nat.le_refl _) W D _ _ (by omega) hK rfl rfl)⟩
    simp [results, Tryd.results24, go_sem, f0, f1, f2]
end Go.Proofs.YtckjededijgjgaaDoor.Nm
