import Derived.Test.YtckjededijgjgaaDoorWdG
import Derived.Test.YtckjededijgjgaaDoorWdI
import Derived.Test.YtckjededijgjgaaDoorUrC
import Derived.Test.YtckjededijgjgaaDoorEncC
namespace Go.Proofs.YtckjededijgjgaaDoor.Tb
open Go.RowKit Go.Shelf
open Go.Proofs.YtckjededijgjgaaDoor.Pc (P4 encP pieces Kp cut_in cut_stops_q Ofs kp_t kp_b kp_others)
open Go.Proofs.YtckjededijgjgaaDoor.Nm (cellsP box_turn box_below others_below)
open Go.Proofs.YtckjededijgjgaaDoor.Enc (Spans plainF plain_any)
open Go.Proofs.YtckjededijgjgaaDoor.Wd (wF wS wF_range wS_snoc wS_range pieceWidth_any)
attribute [local go_sem] Oper.semAt_some
set_option linter.unusedVariables false

theorem hide {p : Prop} (h : p) : Hid p := h
/-- a broken byte, a hidden rune -/
def brk (l : List P4) : Bool := l.any fun x => x.2.2.2
def hid (l : List P4) : Bool := l.any fun x => !plainF x.1
/-- a cell's fault, of its pieces -/
def cfL (l : List P4) : Int := if brk l = true then 13 else if hid l = true then 14 else if 400 < wS l then 10 else 0
def cf (s : ByteArray) : Int := cfL (pieces s)
theorem brk_snoc (l : List P4) (x : P4) : brk (l ++ [x]) = (brk l || x.2.2.2) := by simp [brk]
theorem hid_snoc (l : List P4) (x : P4) : hid (l ++ [x]) = (hid l || !plainF x.1) := by simp [hid]
theorem brk_more {l : List P4} (r : List P4) (h : brk l = true) : brk (l ++ r) = true := by simp only [brk, List.any_append] at h ⊢; rw [h]; rfl
theorem of_range {s : ByteArray} {x : P4} (h : Ofs s x) : 0 ≤ x.1 ∧ x.1 ≤ 1114111 := by
  obtain ⟨pos, _, rfl⟩ := h
  exact Wd.pcF_range s pos

/-- the boxes of cellFault -/
structure Cb4 (b : Nat) (s : ByteArray) (e : Int) (c : Int) (h : Bool) (W : World) : Prop where
  y0 : Boxed W b 22 (.int .i64 e)
  y1 : Boxed W (b + 1) 3 (.int .i64 c)
  y2 : Boxed W (b + 1 + 1) 4 (.bool h)
  y3 : Boxed W (b + 1 + 1 + 1) 9 (.string s)
theorem Cb4.turn {b : Nat} {X Y : World} {s : ByteArray} {e c : Int} {h : Bool} {row : Option Nat} (H : Cb4 b s e c h X) (hg : X.grownBy Y row) (hr : ∀ r, row = some r → ∃ o : Obj, X.heap[r]? = some o ∧ o.isCells = false) : Cb4 b s e c h Y :=
  ⟨box_turn H.y0 hg hr, box_turn H.y1 hg hr, box_turn H.y2 hg hr, box_turn H.y3 hg hr⟩
theorem Cb4.call {b : Nat} {X Y : World} {s : ByteArray} {e c : Int} {h : Bool} (H : Cb4 b s e c h X) (hb : Below X.heap.size X Y) : Cb4 b s e c h Y :=
  ⟨box_below H.y0 hb, box_below H.y1 hb, box_below H.y2 hb, box_below H.y3 hb⟩
theorem Cb4.alloc {b : Nat} {X : World} {s : ByteArray} {e c : Int} {h : Bool} (H : Cb4 b s e c h X) (o : Obj) : Cb4 b s e c h (X.alloc o) := H.call ((Below.refl _ _).alloc (Nat.le_refl _) o)
theorem Cb4.drew {b : Nat} {X : World} {s : ByteArray} {e c : Int} {h : Bool} (H : Cb4 b s e c h X) : Cb4 b s e c h X.drew := ⟨H.y0, H.y1, H.y2, H.y3⟩
theorem Cb4.set0 {b : Nat} {X : World} {s : ByteArray} {e c : Int} {h : Bool} (H : Cb4 b s e c h X) (e' : Int) : Cb4 b s e' c h (X.setCell ⟨b, 0, none⟩ (.int .i64 e')) :=
  ⟨H.y0.set _, H.y1.other (by omega) _, H.y2.other (by omega) _, H.y3.other (by omega) _⟩
theorem Cb4.set1 {b : Nat} {X : World} {s : ByteArray} {e c : Int} {h : Bool} (H : Cb4 b s e c h X) (c' : Int) : Cb4 b s e c' h (X.setCell ⟨b + 1, 0, none⟩ (.int .i64 c')) :=
  ⟨H.y0.other (by omega) _, H.y1.set _, H.y2.other (by omega) _, H.y3.other (by omega) _⟩
theorem Cb4.set2 {b : Nat} {X : World} {s : ByteArray} {e c : Int} {h : Bool} (H : Cb4 b s e c h X) (h' : Bool) : Cb4 b s e c h' (X.setCell ⟨b + 1 + 1, 0, none⟩ (.bool h')) :=
  ⟨H.y0.other (by omega) _, H.y1.other (by omega) _, H.y2.set _, H.y3.other (by omega) _⟩
theorem Cb4.kp {b : Nat} {X Y : World} {s : ByteArray} {e c e' c' : Int} {h h' : Bool} (H : Cb4 b s e c h X) (H' : Cb4 b s e' c' h' Y) : ∀ u, Boxed X (b + 1 + 1 + 1) 9 u → Boxed Y (b + 1 + 1 + 1) 9 u := by
  intro u hu
  have h1 : X.heap[b + 1 + 1 + 1]? = some (.cells #[.string s] 9 (0, 0)) := H.y3
  have h2 : X.heap[b + 1 + 1 + 1]? = some (.cells #[u] 9 (0, 0)) := hu
  rw [h1] at h2
  cases h2
  exact H'.y3
theorem Cb4.apart {b : Nat} {X : World} {s : ByteArray} {e c : Int} {h : Bool} {Bx : Nat} {cc : Array Value} (H : Cb4 b s e c h X) (hX : X.heap[Bx]? = some (.cells cc 55 (0, 0))) : Bx ≠ b ∧ Bx ≠ b + 1 ∧ Bx ≠ b + 1 + 1 := by
  refine ⟨fun e => ?_, fun e => ?_, fun e => ?_⟩
  · have : X.heap[b]? = some (.cells #[_] 22 (0, 0)) := H.y0
    rw [← e, hX] at this; cases this
  · have : X.heap[b + 1]? = some (.cells #[_] 3 (0, 0)) := H.y1
    rw [← e, hX] at this; cases this
  · have : X.heap[b + 1 + 1]? = some (.cells #[_] 4 (0, 0)) := H.y2
    rw [← e, hX] at this; cases this

set_option maxRecDepth 100000 in
set_option maxHeartbeats 4000000 in
theorem cellFault_in (n : Nat) (hn : 4 ≤ n) (s : ByteArray) (hs : s.size ≤ 1048576) (w : World) (R off cap : Nat) (hS : Spans w R off cap) :
    CallsIn Fence.wide n Tryd.prog 110 #[.string s] w fun e W' => e = .returned (.int .i64 (cf s)) ∧ Below w.heap.size w W' := by
  have h1 : 1 ≤ n := by omega
  have mixed : Tryd.prog.follows .mixedOrders = true := by kernel_rfl
  refine callsIn_of_wp_marks Tryd.func110 rfl trivial ?_ rfl
  simp only [Tryd.ntmps110, List.size_toArray, List.length_cons, List.length_nil, Nat.reduceAdd, Nat.reduceSub, Array.replicate_succ, Array.replicate_zero, List.push_toArray, List.append_toArray, List.nil_append, List.cons_append]
  gi_wp2_with (refine ⟨trivial, ?_⟩; gi_at_call 50; refine (cut_in _ _ _).mono ?_; rintro e w' ⟨rfl, rfl⟩)
  have x0 := (((Boxed.new w 22 (.int .i64 0)).alloc (.cells #[.int .i64 0] 3)).alloc (.cells #[.bool false] 4)).alloc (.cells #[.string s] 9)
  have x1 := ((Boxed.new (w.alloc (.cells #[.int .i64 0] 22)) 3 (.int .i64 0)).alloc (.cells #[.bool false] 4)).alloc (.cells #[.string s] 9)
  have x2 := (Boxed.new ((w.alloc (.cells #[.int .i64 0] 22)).alloc (.cells #[.int .i64 0] 3)) 4 (.bool false)).alloc (.cells #[.string s] 9)
  have x3 := Boxed.new (((w.alloc (.cells #[.int .i64 0] 22)).alloc (.cells #[.int .i64 0] 3)).alloc (.cells #[.bool false] 4)) 9 (.string s)
  simp only [World.size_alloc] at x1 x2 x3
  have hB3 : Below w.heap.size w ((((w.alloc (.cells #[.int .i64 0] 22)).alloc (.cells #[.int .i64 0] 3)).alloc (.cells #[.bool false] 4)).alloc (.cells #[.string s] 9)) := ((((Below.refl _ w).alloc (Nat.le_refl _) _).alloc (by simp) _).alloc (by simp; omega) _).alloc (by simp; omega) _
  have hsz3 : ((((w.alloc (.cells #[.int .i64 0] 22)).alloc (.cells #[.int .i64 0] 3)).alloc (.cells #[.bool false] 4)).alloc (.cells #[.string s] 9)).heap.size = w.heap.size + 4 := by simp
  obtain ⟨W0, hW0⟩ : ∃ W0, ((((w.alloc (.cells #[.int .i64 0] 22)).alloc (.cells #[.int .i64 0] 3)).alloc (.cells #[.bool false] 4)).alloc (.cells #[.string s] 9)) = W0 := ⟨_, rfl⟩
  rw [hW0] at x0 x1 x2 x3 hB3 hsz3 ⊢
  clear hW0
  refine wpIn_rangeFunc_ownH rfl h1 (gf := 89) (lb := #[.pointer (some ⟨w.heap.size + 1 + 1 + 1, 0, none⟩)]) rfl trivial (enters_of Tryd.func89 (by kernel_rfl) rfl)
    (cut_stops_q (n - 1) (by omega) (w.heap.size + 1 + 1 + 1) s (by omega) W0 x3) kp_t kp_b (Below.refl _ _) (fun _ => rfl)
    (fun pre W => (Cb4 w.heap.size s 0 (wS (pre.map (·.1))) (hid (pre.map (·.1))) W ∧ brk (pre.map (·.1)) = false) ∧ Below w.heap.size w W)
    (fun c pre W => (c = Code.ret ∧ Boxed W w.heap.size 22 (.int .i64 13) ∧ brk (pre.map (·.1)) = true) ∧ Below w.heap.size w W)
    (OwnFrom.and (Own.from (fun pre X Y row hs hg hr => ?_) _) (ownFrom_below (Nat.le_refl _) (by omega)))
    (fun c => OwnFrom.and (Own.from (fun pre X Y row hs hg hr => ?_) _) (ownFrom_below (Nat.le_refl _) (by omega)))
    ⟨⟨⟨x0, x1, x2, x3⟩, rfl⟩, hB3⟩
    (fun x a' W => ∃ Bx, W.heap[Bx]? = some (.cells (cellsP x.1).toArray 55) ∧ a' = { tmps := #[.string s, undef, .pointer (some ⟨w.heap.size, 0, none⟩), .pointer (some ⟨w.heap.size + 1, 0, none⟩), .pointer (some ⟨w.heap.size + 1 + 1, 0, none⟩), .pointer (some ⟨Bx, 0, none⟩), .string s, .func (.func 89) #[] #[.pointer (some ⟨w.heap.size + 1 + 1 + 1, 0, none⟩)], encP x.1, undef, undef, undef, undef, undef, undef, undef, undef, undef, undef, undef, undef, undef, undef, undef, undef, undef, undef], defers := [] })
    (fun x a' _ X Y row hs hg hr => by
      obtain ⟨Bx, h1, h2⟩ := hs
      refine ⟨Bx, (hg.block Bx (Array.getElem?_eq_some_iff.1 h1).1 (fun e => ?_)).trans h1, h2⟩
      obtain ⟨_, o, ho, hc⟩ := hr Bx e.symm
      rw [h1] at ho; cases ho; cases hc)
    ?assign ?body ?done ?stop
  · exact ⟨hs.1.turn hg hr, hs.2⟩
  · obtain ⟨rfl, hb, hp⟩ := hs
    exact ⟨rfl, box_turn hb hg hr, hp⟩
  case assign =>
    rintro l pre x W K ⟨⟨hb, hp⟩, hB1⟩ hK
    simp only [encP]
    gi_wp2
    exact hK _ _ ((KeepsOthers.alloc _ _).from _) (kp_others (KeepsOthers.alloc _ _) (fun v hv => hv.alloc _)) ⟨⟨hb.alloc _, hp⟩, hB1.alloc hB1.size _⟩ ⟨W.heap.size, World.alloc_heap_new W _, rfl⟩
  case body =>
    rintro l pre x a' W hl hq ⟨⟨hCb, hbrk⟩, hB1⟩ ⟨Bx, hX, rfl⟩ hlt
    obtain ⟨hr0, hr1⟩ := of_range x.2
    have hmap : (pre ++ [x]).map (·.1) = pre.map (·.1) ++ [x.1] := by simp
    have HSW : Hid (wS ((pre ++ [x]).map (·.1)) = wS (pre.map (·.1)) + wF x.1 ∧ hid ((pre ++ [x]).map (·.1)) = (hid (pre.map (·.1)) || !plainF x.1.1) ∧ brk ((pre ++ [x]).map (·.1)) = x.1.2.2.2) := by
      refine ⟨?_, ?_, ?_⟩
      · rw [hmap, wS_snoc]
      · rw [hmap, hid_snoc]
      · rw [hmap, brk_snoc, hbrk, Bool.false_or]
    have hml : (pre.map (·.1)).length = pre.length := by simp
    have hwr := wS_range (pre.map (·.1))
    rw [hml] at hwr
    have hx0 := wF_range x.1
    generalize hwp : wS (pre.map (·.1)) = wp at *
    generalize hhp : hid (pre.map (·.1)) = hp at *
    have hPW : ∀ W', Below w.heap.size w W' → Calls Tryd.prog 73 #[encP x.1] W' fun e w' => e = .returned (.int .i64 (wF x.1)) ∧ Below W'.heap.size W' w' := fun W' hb => pieceWidth_any x.1 W' R off cap (hS.below hb (Nat.le_refl _))
    have hPL : ∀ W', Below w.heap.size w W' → Calls Tryd.prog 21 #[.int .i32 x.1.1] W' fun e w' => e = .returned (.bool (plainF x.1.1)) ∧ Below W'.heap.size W' w' := fun W' hb => plain_any x.1.1 W' R off cap (hS.below hb (Nat.le_refl _)) (by omega) (by omega)
    generalize wF x.1 = wx at *
    obtain ⟨r, hr⟩ : ∃ r, x.1.1 = r := ⟨_, rfl⟩
    obtain ⟨pl, hpl⟩ : ∃ pl, x.1.2.1 = pl := ⟨_, rfl⟩
    obtain ⟨sz, hsz⟩ : ∃ sz, x.1.2.2.1 = sz := ⟨_, rfl⟩
    obtain ⟨br, hbr⟩ : ∃ br, x.1.2.2.2 = br := ⟨_, rfl⟩
    have hxe : x.1 = (r, pl, sz, br) := by rw [← hr, ← hpl, ← hsz, ← hbr]
    have hen : encP x.1 = .agg #[.int .i32 r, .int .i64 pl, .int .i64 sz, .bool br] := by rw [hxe]; rfl
    rw [hen] at hPW ⊢
    rw [hxe] at hX
    rw [hr] at hPL HSW
    rw [hbr] at HSW
    clear hr hpl hsz hbr hxe hen hr0 hr1 hwp hhp hmap hml
    have p0 : W.cell? ⟨Bx, 0, none⟩ = some (.int .i32 r) := by simp [World.cell?, hX]
    have p1 : W.cell? ⟨Bx, 1, none⟩ = some (.int .i64 pl) := by simp [World.cell?, hX]
    have p2 : W.cell? ⟨Bx, 2, none⟩ = some (.int .i64 sz) := by simp [World.cell?, hX]
    have p3 : W.cell? ⟨Bx, 3, none⟩ = some (.bool br) := by simp [World.cell?, hX]
    have k0 := hCb.y0.cell
    have f0 := hCb.y0.frozen
    have k2 := hCb.y2.cell
    have f2 := hCb.y2.frozen
    obtain ⟨ap0, ap1, ap2⟩ := hCb.apart hX
    obtain ⟨hlo, hhi⟩ := hwr
    obtain ⟨z0, z1⟩ := hx0
    have hwpb : wp ≤ 2097152 := by omega
    clear hhi
    cases br
    · have hfin : ∀ (W1 : World) (hh : Bool), Cb4 w.heap.size s 0 wp hh W1 → Below w.heap.size w W1 → KeepsOthers W W1 → W1.heap[Bx]? = some (.cells (cellsP (r, pl, sz, false)).toArray 55 (0, 0)) → True := fun _ _ _ _ _ _ => trivial
      clear hfin
      cases hp
      · have PL := hPL W hB1
        gi_wp2_with fail
        refine ⟨trivial, fun _ => by omega, (CallsIn.inRound l (callsIn_wide.2 PL)).mono ?_⟩
        rintro e W1 ⟨rfl, hb⟩
        have jC := hCb.call hb
        have jX : W1.heap[Bx]? = some (.cells (cellsP (r, pl, sz, false)).toArray 55 (0, 0)) := (hb.block Bx (Array.getElem?_eq_some_iff.1 hX).1).trans hX
        have hB2 : Below w.heap.size w W1 := hB1.trans (hb.mono hB1.size)
        have hko1 := others_below hb
        have k2' := jC.y2.cell
        have f2' := jC.y2.frozen
        clear p0 p1 p2 p3 k0 f0 k2 f2 PL hb
        generalize hph : plainF r = pf at *
        gi_wp2_with fail
        have jC2 := jC.set2 (!pf)
        have hB3' := hB2.setCell (p := ⟨w.heap.size + 1 + 1, 0, none⟩) (by simp; omega) (.bool (!pf))
        have jX2 := (Below.heap_setCell W1 ⟨w.heap.size + 1 + 1, 0, none⟩ (.bool (!pf)) Bx ap2).trans jX
        have hko2 := hko1.trans (KeepsOthers.setCell W1 ⟨w.heap.size + 1 + 1, 0, none⟩ (.bool (!pf)))
        generalize W1.setCell ⟨w.heap.size + 1 + 1, 0, none⟩ (.bool (!pf)) = W2 at *
        have q0 : W2.cell? ⟨Bx, 0, none⟩ = some (.int .i32 r) := by simp [World.cell?, jX2]
        have q1 : W2.cell? ⟨Bx, 1, none⟩ = some (.int .i64 pl) := by simp [World.cell?, jX2]
        have q2 : W2.cell? ⟨Bx, 2, none⟩ = some (.int .i64 sz) := by simp [World.cell?, jX2]
        have q3 : W2.cell? ⟨Bx, 3, none⟩ = some (.bool false) := by simp [World.cell?, jX2]
        have k1 := jC2.y1.cell
        have f1 := jC2.y1.frozen
        have PW := hPW W2.drew hB3'.drew
        clear jC jX hko1 hB2 k2' f2'
        gi_region_with_o (refine ⟨trivial, fun _ => by omega, (CallsIn.inRound l (callsIn_wide.2 PW)).mono ?_⟩; rintro e W3 ⟨rfl, hb3⟩; have j3 := jC2.drew.call hb3; have k3 := j3.y1.cell; have f3 := j3.y1.frozen)
        all_goals gi_wp2
        all_goals
          rw [show IntKind.i64.wrap (wp + wx) = wp + wx by rw [IntKind.wrap_i64]; omega]
          have hko : KeepsOthers W (W3.setCell ⟨w.heap.size + 1, 0, none⟩ (.int .i64 (wp + wx))) := ((hko2.trans (KeepsOthers.drew W2)).trans (others_below hb3)).trans (KeepsOthers.setCell W3 ⟨w.heap.size + 1, 0, none⟩ _)
          have hB4 := (hB3'.drew.trans (hb3.mono hB3'.size)).setCell (p := ⟨w.heap.size + 1, 0, none⟩) (by simp) (.int .i64 (wp + wx))
          obtain ⟨s1, s2, s3⟩ := HSW.out
          refine ⟨hko.from _, kp_others hko (hCb.kp (j3.set1 (wp + wx))), ⟨?_, s3⟩, hB4⟩
          rw [s1, s2]
          exact j3.set1 (wp + wx)
      · gi_wp2_with fail
        refine ⟨trivial, ?_⟩
        gi_wp2_with fail
        have jC := hCb
        have jX := hX
        have hB2 := hB1
        have hko1 : KeepsOthers W W := ⟨Nat.le_refl _, fun _ _ h _ => h⟩
        have jC2 := jC.set2 true
        have hB3' := hB2.setCell (p := ⟨w.heap.size + 1 + 1, 0, none⟩) (by simp; omega) (.bool true)
        have jX2 := (Below.heap_setCell W ⟨w.heap.size + 1 + 1, 0, none⟩ (.bool true) Bx ap2).trans jX
        have hko2 := hko1.trans (KeepsOthers.setCell W ⟨w.heap.size + 1 + 1, 0, none⟩ (.bool true))
        generalize W.setCell ⟨w.heap.size + 1 + 1, 0, none⟩ (.bool true) = W2 at *
        have q0 : W2.cell? ⟨Bx, 0, none⟩ = some (.int .i32 r) := by simp [World.cell?, jX2]
        have q1 : W2.cell? ⟨Bx, 1, none⟩ = some (.int .i64 pl) := by simp [World.cell?, jX2]
        have q2 : W2.cell? ⟨Bx, 2, none⟩ = some (.int .i64 sz) := by simp [World.cell?, jX2]
        have q3 : W2.cell? ⟨Bx, 3, none⟩ = some (.bool false) := by simp [World.cell?, jX2]
        have k1 := jC2.y1.cell
        have f1 := jC2.y1.frozen
        have PW := hPW W2.drew hB3'.drew
        clear jC jX hko1 hB2 p0 p1 p2 p3 k0 f0 k2 f2 hX
        gi_region_with_o (refine ⟨trivial, fun _ => by omega, (CallsIn.inRound l (callsIn_wide.2 PW)).mono ?_⟩; rintro e W3 ⟨rfl, hb3⟩; have j3 := jC2.drew.call hb3; have k3 := j3.y1.cell; have f3 := j3.y1.frozen)
        all_goals gi_wp2
        all_goals
          rw [show IntKind.i64.wrap (wp + wx) = wp + wx by rw [IntKind.wrap_i64]; omega]
          have hko : KeepsOthers W (W3.setCell ⟨w.heap.size + 1, 0, none⟩ (.int .i64 (wp + wx))) := ((hko2.trans (KeepsOthers.drew W2)).trans (others_below hb3)).trans (KeepsOthers.setCell W3 ⟨w.heap.size + 1, 0, none⟩ _)
          have hB4 := (hB3'.drew.trans (hb3.mono hB3'.size)).setCell (p := ⟨w.heap.size + 1, 0, none⟩) (by simp) (.int .i64 (wp + wx))
          obtain ⟨s1, s2, s3⟩ := HSW.out
          refine ⟨hko.from _, kp_others hko (hCb.kp (j3.set1 (wp + wx))), ⟨?_, s3⟩, hB4⟩
          rw [s1, s2]
          exact j3.set1 (wp + wx)
    · have HX := HSW.out.2.2
      have hB2 : Below w.heap.size w (W.setCell ⟨w.heap.size, 0, none⟩ (.int .i64 13)) := hB1.setCell (p := ⟨w.heap.size, 0, none⟩) (Nat.le_refl _) _
      gi_wp2
      exact ⟨(KeepsOthers.setCell _ _ _).from _, ⟨rfl, (hCb.set0 13).y0, HX⟩, hB2⟩
  case done =>
    rintro D ys W hD hys ⟨⟨hCb, hbrk⟩, hB1⟩ hK
    have hys' : ys.map (·.1) = pieces s := hys
    rw [hys'] at hCb hbrk
    have HR : Hid (cf s = if hid (pieces s) = true then 14 else if 400 < wS (pieces s) then 10 else 0) := by
      show _ = _
      unfold cf cfL
      rw [hbrk, if_neg (by simp)]
    have k0 := hCb.y0.cell
    have f0 := hCb.y0.frozen
    have k1 := hCb.y1.cell
    have k2 := hCb.y2.cell
    generalize hid (pieces s) = hh at *
    generalize wS (pieces s) = ww at *
    cases hh
    · by_cases h400 : 400 < ww
      · rw [if_neg (by simp), if_pos h400] at HR
        gi_wp2
        have hK2 := (KeepsOthers.setCell W ⟨w.heap.size, 0, none⟩ (.int .i64 10)).same D _ hK rfl
        have g1 := ((hCb.set0 10).y0.kept (grownBy_putObj' _ D (.deferred none)) (fun e => by cases e; omega)).cell
        refine ⟨by simp, .inl ⟨_, _, rfl, run_takeDeferred hK2, ?_⟩⟩
        refine ⟨.int .i64 10, ?_, by rw [HR.out], (hB1.setCell (p := ⟨w.heap.size, 0, none⟩) (Nat.le_refl _) _).trans (belowK_b (w := w) (Nat.le_refl _) _ D _ _ (by omega) hK2 rfl rfl)⟩
        simp [results, Tryd.results110, go_sem, g1]
      · have h400' : ¬ 400 < ww := h400
        rw [if_neg (by simp), if_neg h400] at HR
        gi_wp2
        have hK2 := (KeepsOthers.setCell W ⟨w.heap.size, 0, none⟩ (.int .i64 0)).same D _ hK rfl
        have g1 := ((hCb.set0 0).y0.kept (grownBy_putObj' _ D (.deferred none)) (fun e => by cases e; omega)).cell
        refine ⟨by simp, .inl ⟨_, _, rfl, run_takeDeferred hK2, ?_⟩⟩
        refine ⟨.int .i64 0, ?_, by rw [HR.out], (hB1.setCell (p := ⟨w.heap.size, 0, none⟩) (Nat.le_refl _) _).trans (belowK_b (w := w) (Nat.le_refl _) _ D _ _ (by omega) hK2 rfl rfl)⟩
        simp [results, Tryd.results110, go_sem, g1]
    · rw [if_pos rfl] at HR
      gi_wp2
      have hK2 := (KeepsOthers.setCell W ⟨w.heap.size, 0, none⟩ (.int .i64 14)).same D _ hK rfl
      have g1 := ((hCb.set0 14).y0.kept (grownBy_putObj' _ D (.deferred none)) (fun e => by cases e; omega)).cell
      refine ⟨by simp, .inl ⟨_, _, rfl, run_takeDeferred hK2, ?_⟩⟩
      refine ⟨.int .i64 14, ?_, by rw [HR.out], (hB1.setCell (p := ⟨w.heap.size, 0, none⟩) (Nat.le_refl _) _).trans (belowK_b (w := w) (Nat.le_refl _) _ D _ _ (by omega) hK2 rfl rfl)⟩
      simp [results, Tryd.results110, go_sem, g1]
  case stop =>
    rintro D c pre W hD hpre ⟨⟨rfl, hb0, hbrk⟩, hB1⟩ hK
    obtain ⟨rest, hpp⟩ := hpre
    have HR : Hid (cf s = 13) := by
      show _ = _
      unfold cf cfL
      rw [← hpp, if_pos (brk_more _ hbrk)]
    gi_wp2
    have f1 := (hb0.kept (grownBy_putObj' _ D (.deferred none)) (fun e => by cases e; omega)).cell
    refine ⟨by simp, .inl ⟨_, _, rfl, run_takeDeferred hK, ?_⟩⟩
    refine ⟨.int .i64 13, ?_, by rw [HR.out], hB1.trans (belowK_b (w := w) (Nat.le_refl _) W D _ _ (by omega) hK rfl rfl)⟩
    simp [results, Tryd.results110, go_sem, f1]
end Go.Proofs.YtckjededijgjgaaDoor.Tb
namespace Go.Proofs.YtckjededijgjgaaDoor.Tb
open Go.RowKit
open Go.Proofs.YtckjededijgjgaaDoor.Pc (P4 pieces)
open Go.Proofs.YtckjededijgjgaaDoor.Enc (Spans plainF hidB hidden_any)
open Go.Proofs.YtckjededijgjgaaDoor.Wd (wS Cols refWidth_of)
open Go.Proofs.YtckjededijgjgaaDoor.Ur (Lp lp_of)
set_option linter.unusedVariables false

theorem cellFault_any (s : ByteArray) (hs : s.size ≤ 1048576) (w : World) (R off cap : Nat) (hS : Spans w R off cap) :
    Calls Tryd.prog 110 #[.string s] w fun e W' => e = .returned (.int .i64 (cf s)) ∧ Below w.heap.size w W' :=
  (callsIn_wide (n := 4)).1 (cellFault_in 4 (by omega) s hs w R off cap hS)

theorem meas1 {N k : Nat} (h : N - (k + 1) < N - k) : N - ((k : Int) + 1).toNat < N - ((k : Int)).toNat := by
  rw [show ((k : Int) + 1).toNat = k + 1 by omega, show ((k : Int)).toNat = k by omega]; exact h
/-- texts in memory -/
def Sv (w : World) (ad : Option Addr) (vs : List ByteArray) : Prop := ∀ k (hk : k < vs.length), ∃ g off, ad = some ⟨g, off, none⟩ ∧ g < w.heap.size ∧ w.cell? ⟨g, off + k, none⟩ = some (.string vs[k])
theorem Sv.below {w w' : World} {ad : Option Addr} {vs : List ByteArray} {B : Nat} (h : Sv w ad vs) (hb : Below B w w') (hB : w.heap.size ≤ B) : Sv w' ad vs := by
  intro k hk
  obtain ⟨g, off, h0, h1, c0⟩ := h k hk
  exact ⟨g, off, h0, Nat.lt_of_lt_of_le h1 hb.size, (hb.cell (p := ⟨g, off + k, none⟩) (Nat.lt_of_lt_of_le h1 hB)).trans c0⟩

/-- a row's fault -/
def rfL : List ByteArray → Int
  | [] => 0
  | c :: t => if cf c ≠ 0 then cf c else rfL t
def rf (row : List ByteArray) : Int := if 16 < row.length then 18 else rfL row
theorem rf_drop {row : List ByteArray} {k : Nat} (h : k < row.length) : rfL (row.drop k) = if cf row[k] ≠ 0 then cf row[k] else rfL (row.drop (k + 1)) := by
  rw [List.drop_eq_getElem_cons h, rfL]
theorem rf_end {row : List ByteArray} {k : Nat} (h : row.length ≤ k) : rfL (row.drop k) = 0 := by
  rw [List.drop_of_length_le h]; rfl

set_option maxRecDepth 100000 in
set_option maxHeartbeats 2000000 in
theorem rowFault_any (row : List ByteArray) (hz : ∀ c ∈ row, c.size ≤ 1048576) (w : World) (ad : Option Addr) (cap : Nat) (hV : Sv w ad row) (R off cap' : Nat) (hS : Spans w R off cap') :
    Calls Tryd.prog 86 #[.slice ad row.length cap] w fun e w' => e = .returned (.int .i64 (rf row)) ∧ Below w.heap.size w w' := by
  unfold rf
  by_cases hbig : 16 < row.length
  · rw [if_pos hbig]
    have hbI : (16 : Int) < (row.length : Int) := by omega
    clear hz hV
    generalize row.length = N at *
    go_enter Tryd.func86, Tryd.ntmps86
    go_wp2
    go_ret
    exact ⟨rfl, Below.refl _ _⟩
  rw [if_neg hbig]
  have HCF := hide (fun k (hk : k < row.length) (W : World) (hb : Below w.heap.size w W) => cellFault_any row[k] (hz _ (List.getElem_mem hk)) W R off cap' (hS.below hb (Nat.le_refl _)))
  have HRD := hide (fun k (hk : k < row.length) => rf_drop hk)
  have HRE := hide (fun k (hk : row.length ≤ k) => rf_end hk)
  have HVV := hide hV
  have HR0 : Hid (rfL (row.drop 0) = rfL row) := by show _ = _; rw [List.drop_zero]
  clear hz hV hS
  generalize rfL row = F at *
  obtain ⟨N, hN⟩ : ∃ N, row.length = N := ⟨_, rfl⟩
  have HN := hide hN
  rw [hN] at hbig ⊢
  clear hN
  have hNI : (N : Int) ≤ 16 := by omega
  go_enter Tryd.func86, Tryd.ntmps86
  go_wp2_with fail
  go_loopw [11] (fun kv wr => ∃ k : Nat, kv = .int .i64 (k : Int) ∧ k ≤ N ∧ Below w.heap.size w wr ∧ Hid (rfL (row.drop k) = F)) (fun kv _ => N - (intOf kv).toNat)
  case atStart => exact ⟨0, rfl, by omega, Below.refl _ _, HR0⟩
  case round =>
    obtain ⟨k, rfl, hk, hB, HI⟩ := hrel
    by_cases hlt : k < N
    · have hkl : k < row.length := by rw [HN.out]; exact hlt
      obtain ⟨g, o, rfl, hg, c0⟩ := (HVV.out.below hB (Nat.le_refl _)) k hkl
      have hltI : (k : Int) < (N : Int) := by omega
      have CF := HCF.out k hkl wr hB
      have HI2 : Hid (F = if cf row[k] ≠ 0 then cf row[k] else rfL (row.drop (k + 1))) := by
        show _ = _
        rw [← HI.out]; exact HRD.out k hkl
      generalize row[k] = c at *
      generalize cf c = ec at *
      clear HI HCF HRD HRE HVV HR0
      by_cases he : ec = 0
      · have be : (ec != 0) = false := by rw [he]; rfl
        have HI3 : Hid (rfL (row.drop (k + 1)) = F) := by show _ = _; rw [HI2.out, if_neg (by simp [he])]
        clear HI2 he
        go_wp2_with fail
        refine CF.mono ?_; rintro e w2 ⟨rfl, hb2⟩
        go_wp2
        exact ⟨⟨k + 1, by go_num, by omega, hB.trans (hb2.mono hB.size), HI3⟩, by simp [intOf]; omega⟩
      · have be : (ec != 0) = true := by rw [bne_iff_ne]; exact he
        have HE : Hid (F = ec) := by show _ = _; rw [HI2.out, if_pos he]
        clear HI2 he
        go_wp2_with fail
        refine CF.mono ?_; rintro e w2 ⟨rfl, hb2⟩
        go_wp2
        go_ret
        exact ⟨by rw [HE.out]; rfl, hB.trans (hb2.mono hB.size)⟩
    · have hge : ¬ (k : Int) < (N : Int) := by omega
      have HE : Hid (F = 0) := by show _ = _; rw [← HI.out]; exact HRE.out k (by rw [HN.out]; omega)
      clear HI HCF HRD HRE HVV HR0
      go_wp2
      go_ret
      exact ⟨by rw [HE.out]; rfl, hB⟩

theorem brk_take {l : List P4} {k : Nat} (h : k < l.length) : brk (l.take (k + 1)) = (brk (l.take k) || l[k].2.2.2) := by rw [List.take_succ_eq_append_getElem h, brk_snoc]
theorem hid_take {l : List P4} {k : Nat} (h : k < l.length) : hid (l.take (k + 1)) = (hid (l.take k) || !plainF l[k].1) := by rw [List.take_succ_eq_append_getElem h, hid_snoc]
theorem brk_of {l : List P4} {k : Nat} (h : k < l.length) (hb : l[k].2.2.2 = true) : brk l = true := by
  unfold brk
  rw [List.any_eq_true]
  exact ⟨l[k], List.getElem_mem h, hb⟩

set_option maxRecDepth 100000 in
set_option maxHeartbeats 2000000 in
theorem refCellFault_of (CO : Cols) (s : ByteArray) (hs : s.size ≤ 1048576) (w : World) :
    Calls Tryd.prog 109 #[.string s] w fun e w' => e = .returned (.int .i64 (cf s)) ∧ Below w.heap.size w w' := by
  have RP := Rp.refPieces_any s hs w
  have HW := hide (fun W => refWidth_of CO s hs W)
  have hpl := Wd.pieces_len s
  have HB1 := hide (fun k (hk : k < (pieces s).length) (hb : (pieces s)[k].2.2.2 = true) => brk_of hk hb)
  have HB2 := hide (fun k (hk : k < (pieces s).length) => brk_take hk)
  have HB3 := hide (fun k (hk : k < (pieces s).length) => hid_take hk)
  have HTT : Hid ((pieces s).take (pieces s).length = pieces s) := by show _ = _; rw [List.take_length]
  have HCF : Hid (cf s = if brk (pieces s) = true then 13 else if hid (pieces s) = true then 14 else if 400 < wS (pieces s) then 10 else 0) := rfl
  generalize cf s = F at *
  go_enter Tryd.func109, Tryd.ntmps109
  go_wp2_with fail
  refine RP.mono ?_; rintro e w1 ⟨v, rfl, hrow, hb1⟩
  obtain ⟨ad, cap, rfl, hL⟩ := lp_of hrow
  have HL := hide hL
  clear RP hrow hL
  obtain ⟨N, hN⟩ : ∃ N, (pieces s).length = N := ⟨_, rfl⟩
  have HN := hide hN
  rw [hN] at hpl ⊢
  clear hN
  have hNI : (N : Int) ≤ 1048576 := by omega
  have HNB : Hid (N ≤ 1048576) := by show _ ≤ _; omega
  clear hpl
  go_wp2_with fail
  go_loop [4, 5] (fun hv kv => ∃ (k : Nat), kv = .int .i64 (k : Int) ∧ hv = .bool (hid ((pieces s).take k)) ∧ Hid (k ≤ N) ∧ Hid (brk ((pieces s).take k) = false)) (fun _ kv => N - (intOf kv).toNat)
  case atStart => exact ⟨0, rfl, rfl, by show _ ≤ _; omega, rfl⟩
  case round =>
    obtain ⟨k, rfl, rfl, HK, HBK⟩ := hrel
    by_cases hlt : k < N
    · have hkl : k < (pieces s).length := by rw [HN.out]; exact hlt
      obtain ⟨g, rfl, hg, c0, c1, c2, c3⟩ := HL.out k hkl
      have hltI : (k : Int) < (N : Int) := by omega
      have hb2 := HB2.out k hkl
      have hh3 := HB3.out k hkl
      have hb1' := HB1.out k hkl
      rw [HBK.out, Bool.false_or] at hb2
      have HH3 := hide hh3
      have HBB := hide hb2
      have HB1' := hide hb1'
      have HLT := hide hlt
      clear hh3 hb2 hb1' hlt
      have H := hidden_any (pieces s)[k].1 w1
      have hpf : ∀ r, plainF r = !hidB r := fun _ => rfl
      have HPF := hide hpf
      clear hpf
      generalize (pieces s)[k] = x at *
      obtain ⟨r, pl, sz, br⟩ := x
      simp only at c0 c1 c2 c3 H
      cases br
      · generalize hid ((pieces s).take k) = hk0 at *
        have HI2 : Hid (hid ((pieces s).take (k + 1)) = (hk0 || hidB r)) := by
          show _ = _
          rw [HH3.out, HPF.out]; simp
        have HBN : Hid (brk ((pieces s).take (k + 1)) = false) := HBB.out
        have HKN : Hid (k + 1 ≤ N) := by have := HLT.out; show _ ≤ _; omega
        have HM : Hid (N - (k + 1) < N - k) := by have := HLT.out; show _ < _; omega
        clear HB1 HB2 HB3 HTT HCF HL HH3 HBB HB1' HPF HBK
        generalize hidB r = hb at *
        cases hk0
        · go_wp2_with fail
          refine H.mono ?_; rintro e w2 ⟨rfl, hw⟩; obtain rfl := hw.symm
          go_wp2
          exact ⟨⟨k + 1, by go_num, by rw [HI2.out]; rfl, HKN, HBN⟩, by simp only [intOf]; exact meas1 HM.out⟩
        · go_wp2_with fail
          refine H.mono ?_; rintro e w2 ⟨rfl, hw⟩; obtain rfl := hw.symm
          go_wp2
          exact ⟨⟨k + 1, by go_num, by rw [HI2.out]; rfl, HKN, HBN⟩, by simp only [intOf]; exact meas1 HM.out⟩
      · have HE : Hid (F = 13) := by
          show _ = _
          rw [HCF.out, if_pos (HB1'.out rfl)]
        clear HB1 HB2 HB3 HTT HCF HL HH3 HBB HB1' HPF
        go_wp2
        go_ret
        exact ⟨by rw [HE.out]; rfl, hb1⟩
    · have hge : ¬ (k : Int) < (N : Int) := by omega
      have hkN : k = N := by have := HK.out; omega
      have et : (pieces s).take k = pieces s := by rw [hkN, ← HN.out]; exact HTT.out
      have hbk := HBK.out
      rw [et] at hbk ⊢
      have HC2 : Hid (F = if hid (pieces s) = true then 14 else if 400 < wS (pieces s) then 10 else 0) := by
        show _ = _
        rw [HCF.out, hbk, if_neg (by simp)]
      have W1 := HW.out w1
      clear HB1 HB2 HB3 HTT HCF HL HBK et hbk hkN HW
      generalize hid (pieces s) = hh at *
      generalize wS (pieces s) = ww at *
      cases hh
      · by_cases h4 : 400 < ww
        · have HE : Hid (F = 10) := by show _ = _; rw [HC2.out, if_neg (by simp), if_pos h4]
          clear HC2
          go_wp2_with fail
          refine W1.mono ?_; rintro e w2 ⟨rfl, hb2⟩
          go_wp2
          go_ret
          exact ⟨by rw [HE.out]; rfl, hb1.trans (hb2.mono hb1.size)⟩
        · have h4' : ¬ 400 < ww := h4
          have HE : Hid (F = 0) := by show _ = _; rw [HC2.out, if_neg (by simp), if_neg h4]
          clear HC2
          go_wp2_with fail
          refine W1.mono ?_; rintro e w2 ⟨rfl, hb2⟩
          go_wp2
          go_ret
          exact ⟨by rw [HE.out]; rfl, hb1.trans (hb2.mono hb1.size)⟩
      · have HE : Hid (F = 14) := by show _ = _; rw [HC2.out, if_pos rfl]
        clear HC2
        go_wp2
        go_ret
        exact ⟨by rw [HE.out]; rfl, hb1⟩
end Go.Proofs.YtckjededijgjgaaDoor.Tb
namespace Go.Proofs.YtckjededijgjgaaDoor.Tb
open Go.RowKit
open Go.Proofs.YtckjededijgjgaaDoor.Pc (P4 pieces)
open Go.Proofs.YtckjededijgjgaaDoor.Enc (Spans)
open Go.Proofs.YtckjededijgjgaaDoor.Wd (wS Cols refWidth_of width_any wS_range)
set_option linter.unusedVariables false

/-- rows of texts in memory -/
def Rs (w : World) (ad : Option Addr) (rows : List (List ByteArray)) : Prop := ∀ i (hi : i < rows.length), ∃ g off adr cp, ad = some ⟨g, off, none⟩ ∧ g < w.heap.size ∧ w.cell? ⟨g, off + i, none⟩ = some (.slice adr rows[i].length cp) ∧ Sv w adr rows[i]
theorem Rs.below {w w' : World} {ad : Option Addr} {rows : List (List ByteArray)} {B : Nat} (h : Rs w ad rows) (hb : Below B w w') (hB : w.heap.size ≤ B) : Rs w' ad rows := by
  intro k hk
  obtain ⟨g, off, adr, cp, h0, h1, c0, hv⟩ := h k hk
  exact ⟨g, off, adr, cp, h0, Nat.lt_of_lt_of_le h1 hb.size, (hb.cell (p := ⟨g, off + k, none⟩) (Nat.lt_of_lt_of_le h1 hB)).trans c0, hv.below hb hB⟩

/-- the columns of a cell of a row -/
def wAt (row : List ByteArray) (j : Nat) : Int := match row[j]? with
  | some c => wS (pieces c)
  | none => 0
theorem wAt_in {row : List ByteArray} {j : Nat} (h : j < row.length) : wAt row j = wS (pieces row[j]) := by unfold wAt; rw [List.getElem?_eq_getElem h]
theorem wAt_out {row : List ByteArray} {j : Nat} (h : row.length ≤ j) : wAt row j = 0 := by unfold wAt; rw [List.getElem?_eq_none h]
theorem wAt_pos (row : List ByteArray) (j : Nat) : 0 ≤ wAt row j := by
  unfold wAt
  split
  · exact (wS_range _).1
  · exact Int.le_refl _
/-- a column's width -/
def cw (rows : List (List ByteArray)) (j : Nat) : Int := (rows.map fun r => wAt r j).foldl max 0
theorem cw_snoc (rows : List (List ByteArray)) (r : List ByteArray) (j : Nat) : cw (rows ++ [r]) j = max (cw rows j) (wAt r j) := by simp [cw]
theorem cw_nil (j : Nat) : cw [] j = 0 := rfl
theorem cw_pos (rows : List (List ByteArray)) (j : Nat) : 0 ≤ cw rows j := by
  unfold cw
  have : ∀ (l : List Int) (a : Int), 0 ≤ a → 0 ≤ l.foldl max a := by
    intro l
    induction l with
    | nil => intro a h; exact h
    | cons x t ih => intro a h; exact ih _ (by omega)
  exact this _ 0 (Int.le_refl _)

/-- sixteen numbers -/
def A16 (f : Nat → Int) : Array Value := #[.int .i64 (f 0), .int .i64 (f 1), .int .i64 (f 2), .int .i64 (f 3), .int .i64 (f 4), .int .i64 (f 5), .int .i64 (f 6), .int .i64 (f 7), .int .i64 (f 8), .int .i64 (f 9), .int .i64 (f 10), .int .i64 (f 11), .int .i64 (f 12), .int .i64 (f 13), .int .i64 (f 14), .int .i64 (f 15)]
theorem lt16 {j : Nat} (h : j < 16) : j = 0 ∨ j = 1 ∨ j = 2 ∨ j = 3 ∨ j = 4 ∨ j = 5 ∨ j = 6 ∨ j = 7 ∨ j = 8 ∨ j = 9 ∨ j = 10 ∨ j = 11 ∨ j = 12 ∨ j = 13 ∨ j = 14 ∨ j = 15 := by omega
theorem A16_get (f : Nat → Int) (j : Nat) (h : j < 16) : (A16 f)[j]? = some (.int .i64 (f j)) := by
  rcases lt16 h with rfl | rfl | rfl | rfl | rfl | rfl | rfl | rfl | rfl | rfl | rfl | rfl | rfl | rfl | rfl | rfl <;> rfl
theorem A16_set (f : Nat → Int) (j : Nat) (h : j < 16) (v : Int) : (A16 f).setIfInBounds j (.int .i64 v) = A16 (fun i => if i = j then v else f i) := by
  rcases lt16 h with rfl | rfl | rfl | rfl | rfl | rfl | rfl | rfl | rfl | rfl | rfl | rfl | rfl | rfl | rfl | rfl <;> rfl
theorem A16_zero : A16 (fun _ => 0) = #[.int .i64 0, .int .i64 0, .int .i64 0, .int .i64 0, .int .i64 0, .int .i64 0, .int .i64 0, .int .i64 0, .int .i64 0, .int .i64 0, .int .i64 0, .int .i64 0, .int .i64 0, .int .i64 0, .int .i64 0, .int .i64 0] := rfl
theorem A16_congr {f g : Nat → Int} (e : ∀ j, j < 16 → f j = g j) : A16 f = A16 g := by
  unfold A16
  rw [e 0 (by omega), e 1 (by omega), e 2 (by omega), e 3 (by omega), e 4 (by omega), e 5 (by omega), e 6 (by omega), e 7 (by omega), e 8 (by omega), e 9 (by omega), e 10 (by omega), e 11 (by omega), e 12 (by omega), e 13 (by omega), e 14 (by omega), e 15 (by omega)]
/-- the block of a row of sixteen numbers -/
def Ar (w : World) (b : Nat) (f : Nat → Int) : Prop := w.heap[b]? = some (.cells (A16 f) 122 (0, 0))
theorem Ar.cell {w : World} {b : Nat} {f : Nat → Int} (h : Ar w b f) (j : Nat) (hj : j < 16) : w.cell? ⟨b, j, none⟩ = some (.int .i64 (f j)) := by
  have h' : w.heap[b]? = some (.cells (A16 f) 122 (0, 0)) := h
  simp [World.cell?, h', A16_get f j hj]
theorem Ar.frozen {w : World} {b : Nat} {f : Nat → Int} (h : Ar w b f) (j : Nat) : w.frozen? ⟨b, j, none⟩ = false := frozen_of_row w b j _ 122 h
theorem Ar.set {w : World} {b : Nat} {f : Nat → Int} (h : Ar w b f) (j : Nat) (hj : j < 16) (v : Int) : Ar (w.setCell ⟨b, j, none⟩ (.int .i64 v)) b (fun i => if i = j then v else f i) := by
  unfold Ar
  rw [heap_setCell_same w b j _ 122 _ h, A16_set f j hj]
theorem Ar.below {w w' : World} {b : Nat} {f : Nat → Int} (h : Ar w b f) (hb : Below w.heap.size w w') : Ar w' b f := (hb.block b (Array.getElem?_eq_some_iff.1 h).1).trans h
theorem Ar.lt {w : World} {b : Nat} {f : Nat → Int} (h : Ar w b f) : b < w.heap.size := (Array.getElem?_eq_some_iff.1 h).1
theorem Ar.other {w : World} {b b' : Nat} {f : Nat → Int} (h : Ar w b f) (hne : b ≠ b') (j : Nat) (v : Value) : Ar (w.setCell ⟨b', j, none⟩ v) b f := (Below.heap_setCell w ⟨b', j, none⟩ v b hne).trans h
theorem Ar.congr {w : World} {b : Nat} {f g : Nat → Int} (h : Ar w b f) (e : ∀ j, j < 16 → f j = g j) : Ar w b g := by
  unfold Ar at h ⊢
  rw [h, A16_congr e]

abbrev set16 (w : World) (b : Nat) (f : Nat → Int) : World := ((((((((((((((((w).setCell ⟨b, 0, none⟩ (.int .i64 (f 0))).setCell ⟨b, 1, none⟩ (.int .i64 (f 1))).setCell ⟨b, 2, none⟩ (.int .i64 (f 2))).setCell ⟨b, 3, none⟩ (.int .i64 (f 3))).setCell ⟨b, 4, none⟩ (.int .i64 (f 4))).setCell ⟨b, 5, none⟩ (.int .i64 (f 5))).setCell ⟨b, 6, none⟩ (.int .i64 (f 6))).setCell ⟨b, 7, none⟩ (.int .i64 (f 7))).setCell ⟨b, 8, none⟩ (.int .i64 (f 8))).setCell ⟨b, 9, none⟩ (.int .i64 (f 9))).setCell ⟨b, 10, none⟩ (.int .i64 (f 10))).setCell ⟨b, 11, none⟩ (.int .i64 (f 11))).setCell ⟨b, 12, none⟩ (.int .i64 (f 12))).setCell ⟨b, 13, none⟩ (.int .i64 (f 13))).setCell ⟨b, 14, none⟩ (.int .i64 (f 14))).setCell ⟨b, 15, none⟩ (.int .i64 (f 15))
theorem store16 {w : World} {b : Nat} {g : Nat → Int} (h : Ar w b g) (f : Nat → Int) : Ar (set16 w b f) b f := by
  have h2 := ((((((((((((((((h).set 0 (by omega) (f 0)).set 1 (by omega) (f 1)).set 2 (by omega) (f 2)).set 3 (by omega) (f 3)).set 4 (by omega) (f 4)).set 5 (by omega) (f 5)).set 6 (by omega) (f 6)).set 7 (by omega) (f 7)).set 8 (by omega) (f 8)).set 9 (by omega) (f 9)).set 10 (by omega) (f 10)).set 11 (by omega) (f 11)).set 12 (by omega) (f 12)).set 13 (by omega) (f 13)).set 14 (by omega) (f 14)).set 15 (by omega) (f 15)
  refine h2.congr (fun j hj => ?_)
  rcases lt16 hj with rfl | rfl | rfl | rfl | rfl | rfl | rfl | rfl | rfl | rfl | rfl | rfl | rfl | rfl | rfl | rfl <;> simp
theorem below16 {w0 w : World} {B b : Nat} (hb : Below B w0 w) (hB : B ≤ b) (f : Nat → Int) : Below B w0 (set16 w b f) := ((((((((((((((((hb).setCell (p := ⟨b, 0, none⟩) hB (.int .i64 (f 0))).setCell (p := ⟨b, 1, none⟩) hB (.int .i64 (f 1))).setCell (p := ⟨b, 2, none⟩) hB (.int .i64 (f 2))).setCell (p := ⟨b, 3, none⟩) hB (.int .i64 (f 3))).setCell (p := ⟨b, 4, none⟩) hB (.int .i64 (f 4))).setCell (p := ⟨b, 5, none⟩) hB (.int .i64 (f 5))).setCell (p := ⟨b, 6, none⟩) hB (.int .i64 (f 6))).setCell (p := ⟨b, 7, none⟩) hB (.int .i64 (f 7))).setCell (p := ⟨b, 8, none⟩) hB (.int .i64 (f 8))).setCell (p := ⟨b, 9, none⟩) hB (.int .i64 (f 9))).setCell (p := ⟨b, 10, none⟩) hB (.int .i64 (f 10))).setCell (p := ⟨b, 11, none⟩) hB (.int .i64 (f 11))).setCell (p := ⟨b, 12, none⟩) hB (.int .i64 (f 12))).setCell (p := ⟨b, 13, none⟩) hB (.int .i64 (f 13))).setCell (p := ⟨b, 14, none⟩) hB (.int .i64 (f 14))).setCell (p := ⟨b, 15, none⟩) hB (.int .i64 (f 15))

/-- in the midst of a row: the columns ahead of j have been looked at -/
def mid (f : Nat → Int) (row : List ByteArray) (j : Nat) : Nat → Int := fun i => if i < j then max (f i) (wAt row i) else f i

set_option maxRecDepth 100000 in
set_option maxHeartbeats 4000000 in
theorem columnWidths_any (rows : List (List ByteArray)) (hn : rows.length ≤ 256) (hr : ∀ r ∈ rows, r.length ≤ 16 ∧ ∀ c ∈ r, c.size ≤ 1048576) (w : World) (ad : Option Addr) (cap : Nat) (hV : Rs w ad rows) (R off cap' : Nat) (hS : Spans w R off cap') :
    Calls Tryd.prog 87 #[.slice ad rows.length cap] w fun e w' => e = .returned (.agg (A16 (cw rows))) ∧ Below w.heap.size w w' := by
  have HWD := hide (fun (c : ByteArray) (hc : c.size ≤ 1048576) (W : World) (hb : Below w.heap.size w W) => width_any c (by omega) W R off cap' (hS.below hb (Nat.le_refl _)))
  have HRR := hide (fun i (hi : i < rows.length) => hr rows[i] (List.getElem_mem hi))
  have HTK := hide (fun i (hi : i < rows.length) => (List.take_succ_eq_append_getElem hi : rows.take (i + 1) = _))
  have HTT : Hid (rows.take rows.length = rows) := by show _ = _; rw [List.take_length]
  have HVV := hide hV
  have hw2 := ((Below.refl w.heap.size w).alloc (Nat.le_refl _) (.cells #[.int .i64 0, .int .i64 0, .int .i64 0, .int .i64 0, .int .i64 0, .int .i64 0, .int .i64 0, .int .i64 0, .int .i64 0, .int .i64 0, .int .i64 0, .int .i64 0, .int .i64 0, .int .i64 0, .int .i64 0, .int .i64 0] 122)).alloc (by simp) (.cells #[.int .i64 0, .int .i64 0, .int .i64 0, .int .i64 0, .int .i64 0, .int .i64 0, .int .i64 0, .int .i64 0, .int .i64 0, .int .i64 0, .int .i64 0, .int .i64 0, .int .i64 0, .int .i64 0, .int .i64 0, .int .i64 0] 122)
  have ha0 : Ar ((w.alloc (.cells #[.int .i64 0, .int .i64 0, .int .i64 0, .int .i64 0, .int .i64 0, .int .i64 0, .int .i64 0, .int .i64 0, .int .i64 0, .int .i64 0, .int .i64 0, .int .i64 0, .int .i64 0, .int .i64 0, .int .i64 0, .int .i64 0] 122)).alloc (.cells #[.int .i64 0, .int .i64 0, .int .i64 0, .int .i64 0, .int .i64 0, .int .i64 0, .int .i64 0, .int .i64 0, .int .i64 0, .int .i64 0, .int .i64 0, .int .i64 0, .int .i64 0, .int .i64 0, .int .i64 0, .int .i64 0] 122)) w.heap.size (fun _ => 0) := by
    unfold Ar
    rw [A16_zero]
    have h1 := World.alloc_heap_new w (.cells #[.int .i64 0, .int .i64 0, .int .i64 0, .int .i64 0, .int .i64 0, .int .i64 0, .int .i64 0, .int .i64 0, .int .i64 0, .int .i64 0, .int .i64 0, .int .i64 0, .int .i64 0, .int .i64 0, .int .i64 0, .int .i64 0] 122)
    have h2 := (Below.refl _ (w.alloc (.cells #[.int .i64 0, .int .i64 0, .int .i64 0, .int .i64 0, .int .i64 0, .int .i64 0, .int .i64 0, .int .i64 0, .int .i64 0, .int .i64 0, .int .i64 0, .int .i64 0, .int .i64 0, .int .i64 0, .int .i64 0, .int .i64 0] 122))).alloc (Nat.le_refl _) (.cells #[.int .i64 0, .int .i64 0, .int .i64 0, .int .i64 0, .int .i64 0, .int .i64 0, .int .i64 0, .int .i64 0, .int .i64 0, .int .i64 0, .int .i64 0, .int .i64 0, .int .i64 0, .int .i64 0, .int .i64 0, .int .i64 0] 122)
    exact (h2.block w.heap.size (by simp)).trans h1
  have ha1 : Ar ((w.alloc (.cells #[.int .i64 0, .int .i64 0, .int .i64 0, .int .i64 0, .int .i64 0, .int .i64 0, .int .i64 0, .int .i64 0, .int .i64 0, .int .i64 0, .int .i64 0, .int .i64 0, .int .i64 0, .int .i64 0, .int .i64 0, .int .i64 0] 122)).alloc (.cells #[.int .i64 0, .int .i64 0, .int .i64 0, .int .i64 0, .int .i64 0, .int .i64 0, .int .i64 0, .int .i64 0, .int .i64 0, .int .i64 0, .int .i64 0, .int .i64 0, .int .i64 0, .int .i64 0, .int .i64 0, .int .i64 0] 122)) (w.heap.size + 1) (fun _ => 0) := by
    unfold Ar
    rw [A16_zero]
    have h1 := World.alloc_heap_new (w.alloc (.cells #[.int .i64 0, .int .i64 0, .int .i64 0, .int .i64 0, .int .i64 0, .int .i64 0, .int .i64 0, .int .i64 0, .int .i64 0, .int .i64 0, .int .i64 0, .int .i64 0, .int .i64 0, .int .i64 0, .int .i64 0, .int .i64 0] 122)) (.cells #[.int .i64 0, .int .i64 0, .int .i64 0, .int .i64 0, .int .i64 0, .int .i64 0, .int .i64 0, .int .i64 0, .int .i64 0, .int .i64 0, .int .i64 0, .int .i64 0, .int .i64 0, .int .i64 0, .int .i64 0, .int .i64 0] 122)
    simpa using h1
  clear hr hV hS
  obtain ⟨N, hN⟩ : ∃ N, rows.length = N := ⟨_, rfl⟩
  have HN := hide hN
  rw [hN] at hn ⊢
  clear hN
  have hNI : (N : Int) ≤ 256 := by omega
  go_enter Tryd.func87, Tryd.ntmps87
  go_wp2_with fail
  generalize (w.alloc (.cells #[.int .i64 0, .int .i64 0, .int .i64 0, .int .i64 0, .int .i64 0, .int .i64 0, .int .i64 0, .int .i64 0, .int .i64 0, .int .i64 0, .int .i64 0, .int .i64 0, .int .i64 0, .int .i64 0, .int .i64 0, .int .i64 0] 122)).alloc (.cells #[.int .i64 0, .int .i64 0, .int .i64 0, .int .i64 0, .int .i64 0, .int .i64 0, .int .i64 0, .int .i64 0, .int .i64 0, .int .i64 0, .int .i64 0, .int .i64 0, .int .i64 0, .int .i64 0, .int .i64 0, .int .i64 0] 122) = w0 at *
  go_loopw [10] (fun kv wr => ∃ (i : Nat) (f : Nat → Int), kv = .int .i64 (i : Int) ∧ i ≤ N ∧ Below w.heap.size w wr ∧ Ar wr w.heap.size (fun _ => 0) ∧ Ar wr (w.heap.size + 1) f ∧ Hid (∀ j, f j = cw (rows.take i) j)) (fun kv _ => N - (intOf kv).toNat)
  case atStart => exact ⟨0, fun _ => 0, rfl, by omega, hw2, ha0, ha1, fun j => rfl⟩
  case round =>
    obtain ⟨i, f, rfl, hi, hB, hA0, hA1, HF⟩ := hrel
    clear hw2 ha0 ha1
    by_cases hlt : i < N
    · have hil : i < rows.length := by rw [HN.out]; exact hlt
      obtain ⟨g, o, adr, cp, rfl, hg, c00, hv⟩ := HVV.out i hil
      have c0 := (hB.cell (p := ⟨g, o + i, none⟩) hg).trans c00
      clear c00
      have hltI : (i : Int) < (N : Int) := by omega
      obtain ⟨hr16, hcs⟩ := HRR.out i hil
      have HF2 : Hid (∀ j, cw (rows.take (i + 1)) j = max (f j) (wAt rows[i] j)) := by
        intro j
        rw [HTK.out i hil, cw_snoc, ← HF.out j]
      have HSV := hide hv
      generalize rows[i] = row at *
      have HCS := hide hcs
      clear hv hcs
      obtain ⟨M, hM⟩ : ∃ M, row.length = M := ⟨_, rfl⟩
      have HM := hide hM
      rw [hM] at c0 hr16
      clear hM
      have hMI : (M : Int) ≤ 16 := by omega
      go_wp2_with fail
      go_loopw [16] (fun kv wr' => ∃ (j : Nat) (f2 : Nat → Int), kv = .int .i64 (j : Int) ∧ j ≤ M ∧ Below w.heap.size w wr' ∧ Ar wr' w.heap.size (fun _ => 0) ∧ Ar wr' (w.heap.size + 1) f2 ∧ Hid (∀ q, f2 q = mid f row j q)) (fun kv _ => M - (intOf kv).toNat)
      case atStart => exact ⟨0, f, rfl, by omega, hB, hA0, hA1, fun q => by simp [mid]⟩
      case round =>
        clear hA0 hA1 hB
        obtain ⟨j, f2, rfl, hj, hB, hA0, hA1, HM2⟩ := hrel
        by_cases hjl : j < M
        · have hjr : j < row.length := by rw [HM.out]; exact hjl
          have hjI : (j : Int) < (M : Int) := by omega
          have hj16 : (j : Int) < 16 := by omega
          have hj16N : j < 16 := by omega
          obtain ⟨g2, o2, rfl, hg2, d0⟩ := (HSV.out.below hB (Nat.le_refl _)) j hjr
          have hcz := HCS.out row[j] (List.getElem_mem hjr)
          have WD := HWD.out row[j] hcz wr.drew hB.drew
          have k1 := hA1.cell j hj16N
          have z1 := hA1.frozen j
          have HM3 : Hid (∀ q, (if q = j then max (f2 j) (wAt row j) else f2 q) = mid f row (j + 1) q) := by
            intro q
            rw [HM2.out q]
            unfold mid
            by_cases e : q = j
            · subst e
              rw [if_pos rfl, if_pos (by omega), HM2.out q]
              unfold mid
              rw [if_neg (by omega)]
            · rw [if_neg e]
              by_cases h : q < j
              · rw [if_pos h, if_pos (by omega)]
              · rw [if_neg h, if_neg (by omega)]
          have hwa := wAt_in hjr
          have hwr := wS_range (pieces row[j])
          have hpl := Wd.pieces_len row[j]
          rw [hwa] at HM3
          generalize wS (pieces row[j]) = ww at *
          generalize row[j] = c at *
          have hwwb : ww ≤ 2097152 := by omega
          have hww0 := hwr.1
          clear hwr hpl hwa hcz HM2
          have hAlt := hA1.lt
          generalize hfj : f2 j = fj at *
          go_wp2_with fail
          go_region_with (go_at_call 36; refine WD.mono ?_; rintro e w2 ⟨rfl, hb2⟩; have hA2 := (show Ar wr.drew (w.heap.size + 1) f2 from hA1).below hb2; have k2 := hA2.cell j hj16N; have z2 := hA2.frozen j)
          all_goals go_wp2
          all_goals
            have hB2 := (hB.drew.trans (hb2.mono hB.size)).setCell (p := ⟨w.heap.size + 1, j, none⟩) (by simp) (.int .i64 (max fj ww))
            have hA0' := ((show Ar wr.drew w.heap.size (fun _ => 0) from hA0).below hb2).other (b' := w.heap.size + 1) (by omega) j (.int .i64 (max fj ww))
            have hA1' := hA2.set j hj16N (max fj ww)
            exact ⟨⟨j + 1, _, by go_num, by omega, hB2, hA0', hA1', HM3⟩, by simp only [intOf]; omega⟩
        · have hge : ¬ (j : Int) < (M : Int) := by omega
          have hjM : j = M := by omega
          have HF3 : Hid (∀ q, f2 q = cw (rows.take (i + 1)) q) := by
            intro q
            rw [HM2.out q, HF2.out q, hjM]
            unfold mid
            by_cases h : q < M
            · rw [if_pos h]
            · rw [if_neg h, wAt_out (by rw [HM.out]; omega)]
              have hc := cw_pos (rows.take i) q
              have e := HF.out q
              omega
          clear HM2 HF2 HSV HCS
          go_wp2
          exact ⟨⟨i + 1, f2, by go_num, by omega, hB, hA0, hA1, HF3⟩, by simp only [intOf]; omega⟩
    · have hge : ¬ (i : Int) < (N : Int) := by omega
      have hiN : i = N := by omega
      have HE : Hid (∀ q, f q = cw rows q) := by
        intro q
        rw [HF.out q, hiN, ← HN.out, HTT.out]
      have HRS : Hid (A16 f = A16 (cw rows)) := A16_congr (fun q _ => HE.out q)
      have c0 := hA1.cell 0 (by omega)
      have d0 := hA0.cell 0 (by omega)
      have z0 := hA0.frozen 0
      have c1 := hA1.cell 1 (by omega)
      have d1 := hA0.cell 1 (by omega)
      have z1 := hA0.frozen 1
      have c2 := hA1.cell 2 (by omega)
      have d2 := hA0.cell 2 (by omega)
      have z2 := hA0.frozen 2
      have c3 := hA1.cell 3 (by omega)
      have d3 := hA0.cell 3 (by omega)
      have z3 := hA0.frozen 3
      have c4 := hA1.cell 4 (by omega)
      have d4 := hA0.cell 4 (by omega)
      have z4 := hA0.frozen 4
      have c5 := hA1.cell 5 (by omega)
      have d5 := hA0.cell 5 (by omega)
      have z5 := hA0.frozen 5
      have c6 := hA1.cell 6 (by omega)
      have d6 := hA0.cell 6 (by omega)
      have z6 := hA0.frozen 6
      have c7 := hA1.cell 7 (by omega)
      have d7 := hA0.cell 7 (by omega)
      have z7 := hA0.frozen 7
      have c8 := hA1.cell 8 (by omega)
      have d8 := hA0.cell 8 (by omega)
      have z8 := hA0.frozen 8
      have c9 := hA1.cell 9 (by omega)
      have d9 := hA0.cell 9 (by omega)
      have z9 := hA0.frozen 9
      have c10 := hA1.cell 10 (by omega)
      have d10 := hA0.cell 10 (by omega)
      have z10 := hA0.frozen 10
      have c11 := hA1.cell 11 (by omega)
      have d11 := hA0.cell 11 (by omega)
      have z11 := hA0.frozen 11
      have c12 := hA1.cell 12 (by omega)
      have d12 := hA0.cell 12 (by omega)
      have z12 := hA0.frozen 12
      have c13 := hA1.cell 13 (by omega)
      have d13 := hA0.cell 13 (by omega)
      have z13 := hA0.frozen 13
      have c14 := hA1.cell 14 (by omega)
      have d14 := hA0.cell 14 (by omega)
      have z14 := hA0.frozen 14
      have c15 := hA1.cell 15 (by omega)
      have d15 := hA0.cell 15 (by omega)
      have z15 := hA0.frozen 15
      clear HF HVV HRR HTK HTT HWD HE hiN
      go_wp2
      have hAF := store16 hA0 f
      have hBF := below16 hB (Nat.le_refl _) f
      refine bodyPost_ret (v := .agg (A16 f)) ?_ rfl ⟨by rw [HRS.out], hBF⟩
      show (results _ _).run _ (set16 wr w.heap.size f) = .ok _ (set16 wr w.heap.size f)
      generalize set16 wr w.heap.size f = WF at *
      have r0 := hAF.cell 0 (by omega)
      have r1 := hAF.cell 1 (by omega)
      have r2 := hAF.cell 2 (by omega)
      have r3 := hAF.cell 3 (by omega)
      have r4 := hAF.cell 4 (by omega)
      have r5 := hAF.cell 5 (by omega)
      have r6 := hAF.cell 6 (by omega)
      have r7 := hAF.cell 7 (by omega)
      have r8 := hAF.cell 8 (by omega)
      have r9 := hAF.cell 9 (by omega)
      have r10 := hAF.cell 10 (by omega)
      have r11 := hAF.cell 11 (by omega)
      have r12 := hAF.cell 12 (by omega)
      have r13 := hAF.cell 13 (by omega)
      have r14 := hAF.cell 14 (by omega)
      have r15 := hAF.cell 15 (by omega)
      simp [results, Tryd.results87, go_sem, A16, r0, r1, r2, r3, r4, r5, r6, r7, r8, r9, r10, r11, r12, r13, r14, r15]
end Go.Proofs.YtckjededijgjgaaDoor.Tb
