import Derived.Test.YtckjededijgjgaaDoorWdG
namespace Go.Proofs.YtckjededijgjgaaDoor.Tb
open Go.RowKit Go.Shelf
open Go.Proofs.YtckjededijgjgaaDoor.Pc (P4 encP pieces Kp cut_in cut_stops_q Ofs kp_t kp_b kp_others)
open Go.Proofs.YtckjededijgjgaaDoor.Nm (cellsP box_turn box_below others_below)
open Go.Proofs.YtckjededijgjgaaDoor.Enc (Spans plainF plain_any)
open Go.Proofs.YtckjededijgjgaaDoor.Wd (wF wS wF_range wS_snoc wS_range pieceWidth_any)
attribute [local go_sem] Oper.semAt_some
set_option linter.unusedVariables false

theorem hide {p : Prop} (h : p) : Hid p := h
/-- a broken byte, a hidden rune -/
def brk (l : List P4) : Bool := l.any fun x => x.2.2.2
def hid (l : List P4) : Bool := l.any fun x => !plainF x.1
/-- a cell's fault, of its pieces -/
def cfL (l : List P4) : Int := if brk l = true then 13 else if hid l = true then 14 else if 400 < wS l then 10 else 0
def cf (s : ByteArray) : Int := cfL (pieces s)
theorem brk_snoc (l : List P4) (x : P4) : brk (l ++ [x]) = (brk l || x.2.2.2) := by simp [brk]
theorem hid_snoc (l : List P4) (x : P4) : hid (l ++ [x]) = (hid l || !plainF x.1) := by simp [hid]
theorem brk_more {l : List P4} (r : List P4) (h : brk l = true) : brk (l ++ r) = true := by simp only [brk, List.any_append] at h ⊢; rw [h]; rfl
theorem of_range {s : ByteArray} {x : P4} (h : Ofs s x) : 0 ≤ x.1 ∧ x.1 ≤ 1114111 := by
  obtain ⟨pos, _, rfl⟩ := h
  exact Wd.pcF_range s pos

/-- the boxes of cellFault -/
structure Cb4 (b : Nat) (s : ByteArray) (e : Int) (c : Int) (h : Bool) (W : World) : Prop where
  y0 : Boxed W b 22 (.int .i64 e)
  y1 : Boxed W (b + 1) 3 (.int .i64 c)
  y2 : Boxed W (b + 1 + 1) 4 (.bool h)
  y3 : Boxed W (b + 1 + 1 + 1) 9 (.string s)
theorem Cb4.turn {b : Nat} {X Y : World} {s : ByteArray} {e c : Int} {h : Bool} {row : Option Nat} (H : Cb4 b s e c h X) (hg : X.grownBy Y row) (hr : ∀ r, row = some r → ∃ o : Obj, X.heap[r]? = some o ∧ o.isCells = false) : Cb4 b s e c h Y :=
  ⟨box_turn H.y0 hg hr, box_turn H.y1 hg hr, box_turn H.y2 hg hr, box_turn H.y3 hg hr⟩
theorem Cb4.call {b : Nat} {X Y : World} {s : ByteArray} {e c : Int} {h : Bool} (H : Cb4 b s e c h X) (hb : Below X.heap.size X Y) : Cb4 b s e c h Y :=
  ⟨box_below H.y0 hb, box_below H.y1 hb, box_below H.y2 hb, box_below H.y3 hb⟩
theorem Cb4.alloc {b : Nat} {X : World} {s : ByteArray} {e c : Int} {h : Bool} (H : Cb4 b s e c h X) (o : Obj) : Cb4 b s e c h (X.alloc o) := H.call ((Below.refl _ _).alloc (Nat.le_refl _) o)
theorem Cb4.drew {b : Nat} {X : World} {s : ByteArray} {e c : Int} {h : Bool} (H : Cb4 b s e c h X) : Cb4 b s e c h X.drew := ⟨H.y0, H.y1, H.y2, H.y3⟩
theorem Cb4.set0 {b : Nat} {X : World} {s : ByteArray} {e c : Int} {h : Bool} (H : Cb4 b s e c h X) (e' : Int) : Cb4 b s e' c h (X.setCell ⟨b, 0, none⟩ (.int .i64 e')) :=
  ⟨H.y0.set _, H.y1.other (by omega) _, H.y2.other (by omega) _, H.y3.other (by omega) _⟩
theorem Cb4.set1 {b : Nat} {X : World} {s : ByteArray} {e c : Int} {h : Bool} (H : Cb4 b s e c h X) (c' : Int) : Cb4 b s e c' h (X.setCell ⟨b + 1, 0, none⟩ (.int .i64 c')) :=
  ⟨H.y0.other (by omega) _, H.y1.set _, H.y2.other (by omega) _, H.y3.other (by omega) _⟩
theorem Cb4.set2 {b : Nat} {X : World} {s : ByteArray} {e c : Int} {h : Bool} (H : Cb4 b s e c h X) (h' : Bool) : Cb4 b s e c h' (X.setCell ⟨b + 1 + 1, 0, none⟩ (.bool h')) :=
  ⟨H.y0.other (by omega) _, H.y1.other (by omega) _, H.y2.set _, H.y3.other (by omega) _⟩
theorem Cb4.kp {b : Nat} {X Y : World} {s : ByteArray} {e c e' c' : Int} {h h' : Bool} (H : Cb4 b s e c h X) (H' : Cb4 b s e' c' h' Y) : ∀ u, Boxed X (b + 1 + 1 + 1) 9 u → Boxed Y (b + 1 + 1 + 1) 9 u := by
  intro u hu
  have h1 : X.heap[b + 1 + 1 + 1]? = some (.cells #[.string s] 9 (0, 0)) := H.y3
  have h2 : X.heap[b + 1 + 1 + 1]? = some (.cells #[u] 9 (0, 0)) := hu
  rw [h1] at h2
  cases h2
  exact H'.y3
theorem Cb4.apart {b : Nat} {X : World} {s : ByteArray} {e c : Int} {h : Bool} {Bx : Nat} {cc : Array Value} (H : Cb4 b s e c h X) (hX : X.heap[Bx]? = some (.cells cc 55 (0, 0))) : Bx ≠ b ∧ Bx ≠ b + 1 ∧ Bx ≠ b + 1 + 1 := by
  refine ⟨fun e => ?_, fun e => ?_, fun e => ?_⟩
  · have : X.heap[b]? = some (.cells #[_] 22 (0, 0)) := H.y0
    rw [← e, hX] at this; cases this
  · have : X.heap[b + 1]? = some (.cells #[_] 3 (0, 0)) := H.y1
    rw [← e, hX] at this; cases this
  · have : X.heap[b + 1 + 1]? = some (.cells #[_] 4 (0, 0)) := H.y2
    rw [← e, hX] at this; cases this

set_option maxRecDepth 100000 in
set_option maxHeartbeats 4000000 in
theorem cellFault_in (n : Nat) (hn : 4 ≤ n) (s : ByteArray) (hs : s.size ≤ 1048576) (w : World) (R off cap : Nat) (hS : Spans w R off cap) :
    CallsIn Fence.wide n Tryd.prog 110 #[.string s] w fun e W' => e = .returned (.int .i64 (cf s)) ∧ Below w.heap.size w W' := by
  have h1 : 1 ≤ n := by omega
  have mixed : Tryd.prog.follows .mixedOrders = true := by kernel_rfl
  refine callsIn_of_wp_marks Tryd.func110 rfl trivial ?_ rfl
  simp only [Tryd.ntmps110, List.size_toArray, List.length_cons, List.length_nil, Nat.reduceAdd, Nat.reduceSub, Array.replicate_succ, Array.replicate_zero, List.push_toArray, List.append_toArray, List.nil_append, List.cons_append]
  gi_wp2_with (refine ⟨trivial, ?_⟩; gi_at_call 50; refine (cut_in _ _ _).mono ?_; rintro e w' ⟨rfl, rfl⟩)
  have x0 := (((Boxed.new w 22 (.int .i64 0)).alloc (.cells #[.int .i64 0] 3)).alloc (.cells #[.bool false] 4)).alloc (.cells #[.string s] 9)
  have x1 := ((Boxed.new (w.alloc (.cells #[.int .i64 0] 22)) 3 (.int .i64 0)).alloc (.cells #[.bool false] 4)).alloc (.cells #[.string s] 9)
  have x2 := (Boxed.new ((w.alloc (.cells #[.int .i64 0] 22)).alloc (.cells #[.int .i64 0] 3)) 4 (.bool false)).alloc (.cells #[.string s] 9)
  have x3 := Boxed.new (((w.alloc (.cells #[.int .i64 0] 22)).alloc (.cells #[.int .i64 0] 3)).alloc (.cells #[.bool false] 4)) 9 (.string s)
  simp only [World.size_alloc] at x1 x2 x3
  have hB3 : Below w.heap.size w ((((w.alloc (.cells #[.int .i64 0] 22)).alloc (.cells #[.int .i64 0] 3)).alloc (.cells #[.bool false] 4)).alloc (.cells #[.string s] 9)) := ((((Below.refl _ w).alloc (Nat.le_refl _) _).alloc (by simp) _).alloc (by simp; omega) _).alloc (by simp; omega) _
  have hsz3 : ((((w.alloc (.cells #[.int .i64 0] 22)).alloc (.cells #[.int .i64 0] 3)).alloc (.cells #[.bool false] 4)).alloc (.cells #[.string s] 9)).heap.size = w.heap.size + 4 := by simp
  obtain ⟨W0, hW0⟩ : ∃ W0, ((((w.alloc (.cells #[.int .i64 0] 22)).alloc (.cells #[.int .i64 0] 3)).alloc (.cells #[.bool false] 4)).alloc (.cells #[.string s] 9)) = W0 := ⟨_, rfl⟩
  rw [hW0] at x0 x1 x2 x3 hB3 hsz3 ⊢
  clear hW0
  refine wpIn_rangeFunc_ownH rfl h1 (gf := 89) (lb := #[.pointer (some ⟨w.heap.size + 1 + 1 + 1, 0, none⟩)]) rfl trivial (enters_of Tryd.func89 (by kernel_rfl) rfl)
    (cut_stops_q (n - 1) (by omega) (w.heap.size + 1 + 1 + 1) s (by omega) W0 x3) kp_t kp_b (Below.refl _ _) (fun _ => rfl)
    (fun pre W => (Cb4 w.heap.size s 0 (wS (pre.map (·.1))) (hid (pre.map (·.1))) W ∧ brk (pre.map (·.1)) = false) ∧ Below w.heap.size w W)
    (fun c pre W => (c = Code.ret ∧ Boxed W w.heap.size 22 (.int .i64 13) ∧ brk (pre.map (·.1)) = true) ∧ Below w.heap.size w W)
    (OwnFrom.and (Own.from (fun pre X Y row hs hg hr => ?_) _) (ownFrom_below (Nat.le_refl _) (by omega)))
    (fun c => OwnFrom.and (Own.from (fun pre X Y row hs hg hr => ?_) _) (ownFrom_below (Nat.le_refl _) (by omega)))
    ⟨⟨⟨x0, x1, x2, x3⟩, rfl⟩, hB3⟩
    (fun x a' W => ∃ Bx, W.heap[Bx]? = some (.cells (cellsP x.1).toArray 55) ∧ a' = { tmps := #[.string s, undef, .pointer (some ⟨w.heap.size, 0, none⟩), .pointer (some ⟨w.heap.size + 1, 0, none⟩), .pointer (some ⟨w.heap.size + 1 + 1, 0, none⟩), .pointer (some ⟨Bx, 0, none⟩), .string s, .func (.func 89) #[] #[.pointer (some ⟨w.heap.size + 1 + 1 + 1, 0, none⟩)], encP x.1, undef, undef, undef, undef, undef, undef, undef, undef, undef, undef, undef, undef, undef, undef, undef, undef, undef, undef], defers := [] })
    (fun x a' _ X Y row hs hg hr => by
      obtain ⟨Bx, h1, h2⟩ := hs
      refine ⟨Bx, (hg.block Bx (Array.getElem?_eq_some_iff.1 h1).1 (fun e => ?_)).trans h1, h2⟩
      obtain ⟨_, o, ho, hc⟩ := hr Bx e.symm
      rw [h1] at ho; cases ho; cases hc)
    ?assign ?body ?done ?stop
  · exact ⟨hs.1.turn hg hr, hs.2⟩
  · obtain ⟨rfl, hb, hp⟩ := hs
    exact ⟨rfl, box_turn hb hg hr, hp⟩
  case assign =>
    rintro l pre x W K ⟨⟨hb, hp⟩, hB1⟩ hK
    simp only [encP]
    gi_wp2
    exact hK _ _ ((KeepsOthers.alloc _ _).from _) (kp_others (KeepsOthers.alloc _ _) (fun v hv => hv.alloc _)) ⟨⟨hb.alloc _, hp⟩, hB1.alloc hB1.size _⟩ ⟨W.heap.size, World.alloc_heap_new W _, rfl⟩
  case body =>
    rintro l pre x a' W hl hq ⟨⟨hCb, hbrk⟩, hB1⟩ ⟨Bx, hX, rfl⟩ hlt
    obtain ⟨hr0, hr1⟩ := of_range x.2
    have hmap : (pre ++ [x]).map (·.1) = pre.map (·.1) ++ [x.1] := by simp
    have HSW : Hid (wS ((pre ++ [x]).map (·.1)) = wS (pre.map (·.1)) + wF x.1 ∧ hid ((pre ++ [x]).map (·.1)) = (hid (pre.map (·.1)) || !plainF x.1.1) ∧ brk ((pre ++ [x]).map (·.1)) = x.1.2.2.2) := by
      refine ⟨?_, ?_, ?_⟩
      · rw [hmap, wS_snoc]
      · rw [hmap, hid_snoc]
      · rw [hmap, brk_snoc, hbrk, Bool.false_or]
    have hml : (pre.map (·.1)).length = pre.length := by simp
    have hwr := wS_range (pre.map (·.1))
    rw [hml] at hwr
    have hx0 := wF_range x.1
    generalize hwp : wS (pre.map (·.1)) = wp at *
    generalize hhp : hid (pre.map (·.1)) = hp at *
    have hPW : ∀ W', Below w.heap.size w W' → Calls Tryd.prog 73 #[encP x.1] W' fun e w' => e = .returned (.int .i64 (wF x.1)) ∧ Below W'.heap.size W' w' := fun W' hb => pieceWidth_any x.1 W' R off cap (hS.below hb (Nat.le_refl _))
    have hPL : ∀ W', Below w.heap.size w W' → Calls Tryd.prog 21 #[.int .i32 x.1.1] W' fun e w' => e = .returned (.bool (plainF x.1.1)) ∧ Below W'.heap.size W' w' := fun W' hb => plain_any x.1.1 W' R off cap (hS.below hb (Nat.le_refl _)) (by omega) (by omega)
    generalize wF x.1 = wx at *
    obtain ⟨r, hr⟩ : ∃ r, x.1.1 = r := ⟨_, rfl⟩
    obtain ⟨pl, hpl⟩ : ∃ pl, x.1.2.1 = pl := ⟨_, rfl⟩
    obtain ⟨sz, hsz⟩ : ∃ sz, x.1.2.2.1 = sz := ⟨_, rfl⟩
    obtain ⟨br, hbr⟩ : ∃ br, x.1.2.2.2 = br := ⟨_, rfl⟩
    have hxe : x.1 = (r, pl, sz, br) := by rw [← hr, ← hpl, ← hsz, ← hbr]
    have hen : encP x.1 = .agg #[.int .i32 r, .int .i64 pl, .int .i64 sz, .bool br] := by rw [hxe]; rfl
    rw [hen] at hPW ⊢
    rw [hxe] at hX
    rw [hr] at hPL HSW
    rw [hbr] at HSW
    clear hr hpl hsz hbr hxe hen hr0 hr1 hwp hhp hmap hml
    have p0 : W.cell? ⟨Bx, 0, none⟩ = some (.int .i32 r) := by simp [World.cell?, hX]
    have p1 : W.cell? ⟨Bx, 1, none⟩ = some (.int .i64 pl) := by simp [World.cell?, hX]
    have p2 : W.cell? ⟨Bx, 2, none⟩ = some (.int .i64 sz) := by simp [World.cell?, hX]
    have p3 : W.cell? ⟨Bx, 3, none⟩ = some (.bool br) := by simp [World.cell?, hX]
    have k0 := hCb.y0.cell
    have f0 := hCb.y0.frozen
    have k2 := hCb.y2.cell
    have f2 := hCb.y2.frozen
    obtain ⟨ap0, ap1, ap2⟩ := hCb.apart hX
    obtain ⟨hlo, hhi⟩ := hwr
    obtain ⟨z0, z1⟩ := hx0
    have hwpb : wp ≤ 2097152 := by omega
    clear hhi
    cases br
    · have hfin : ∀ (W1 : World) (hh : Bool), Cb4 w.heap.size s 0 wp hh W1 → Below w.heap.size w W1 → KeepsOthers W W1 → W1.heap[Bx]? = some (.cells (cellsP (r, pl, sz, false)).toArray 55 (0, 0)) → True := fun _ _ _ _ _ _ => trivial
      clear hfin
      cases hp
      · have PL := hPL W hB1
        gi_wp2_with fail
        refine ⟨trivial, fun _ => by omega, (CallsIn.inRound l (callsIn_wide.2 PL)).mono ?_⟩
        rintro e W1 ⟨rfl, hb⟩
        have jC := hCb.call hb
        have jX : W1.heap[Bx]? = some (.cells (cellsP (r, pl, sz, false)).toArray 55 (0, 0)) := (hb.block Bx (Array.getElem?_eq_some_iff.1 hX).1).trans hX
        have hB2 : Below w.heap.size w W1 := hB1.trans (hb.mono hB1.size)
        have hko1 := others_below hb
        have k2' := jC.y2.cell
        have f2' := jC.y2.frozen
        clear p0 p1 p2 p3 k0 f0 k2 f2 PL hb
        generalize hph : plainF r = pf at *
        gi_wp2_with fail
        have jC2 := jC.set2 (!pf)
        have hB3' := hB2.setCell (p := ⟨w.heap.size + 1 + 1, 0, none⟩) (by simp; omega) (.bool (!pf))
        have jX2 := (Below.heap_setCell W1 ⟨w.heap.size + 1 + 1, 0, none⟩ (.bool (!pf)) Bx ap2).trans jX
        have hko2 := hko1.trans (KeepsOthers.setCell W1 ⟨w.heap.size + 1 + 1, 0, none⟩ (.bool (!pf)))
        generalize W1.setCell ⟨w.heap.size + 1 + 1, 0, none⟩ (.bool (!pf)) = W2 at *
        have q0 : W2.cell? ⟨Bx, 0, none⟩ = some (.int .i32 r) := by simp [World.cell?, jX2]
        have q1 : W2.cell? ⟨Bx, 1, none⟩ = some (.int .i64 pl) := by simp [World.cell?, jX2]
        have q2 : W2.cell? ⟨Bx, 2, none⟩ = some (.int .i64 sz) := by simp [World.cell?, jX2]
        have q3 : W2.cell? ⟨Bx, 3, none⟩ = some (.bool false) := by simp [World.cell?, jX2]
        have k1 := jC2.y1.cell
        have f1 := jC2.y1.frozen
        have PW := hPW W2.drew hB3'.drew
        clear jC jX hko1 hB2 k2' f2'
        gi_region_with_o (refine ⟨trivial, fun _ => by omega, (CallsIn.inRound l (callsIn_wide.2 PW)).mono ?_⟩; rintro e W3 ⟨rfl, hb3⟩; have j3 := jC2.drew.call hb3; have k3 := j3.y1.cell; have f3 := j3.y1.frozen)
        all_goals gi_wp2
        all_goals
          rw [show IntKind.i64.wrap (wp + wx) = wp + wx by rw [IntKind.wrap_i64]; omega]
          have hko : KeepsOthers W (W3.setCell ⟨w.heap.size + 1, 0, none⟩ (.int .i64 (wp + wx))) := ((hko2.trans (KeepsOthers.drew W2)).trans (others_below hb3)).trans (KeepsOthers.setCell W3 ⟨w.heap.size + 1, 0, none⟩ _)
          have hB4 := (hB3'.drew.trans (hb3.mono hB3'.size)).setCell (p := ⟨w.heap.size + 1, 0, none⟩) (by simp) (.int .i64 (wp + wx))
          obtain ⟨s1, s2, s3⟩ := HSW.out
          refine ⟨hko.from _, kp_others hko (hCb.kp (j3.set1 (wp + wx))), ⟨?_, s3⟩, hB4⟩
          rw [s1, s2]
          exact j3.set1 (wp + wx)
      · gi_wp2_with fail
        refine ⟨trivial, ?_⟩
        gi_wp2_with fail
        have jC := hCb
        have jX := hX
        have hB2 := hB1
        have hko1 : KeepsOthers W W := ⟨Nat.le_refl _, fun _ _ h _ => h⟩
        have jC2 := jC.set2 true
        have hB3' := hB2.setCell (p := ⟨w.heap.size + 1 + 1, 0, none⟩) (by simp; omega) (.bool true)
        have jX2 := (Below.heap_setCell W ⟨w.heap.size + 1 + 1, 0, none⟩ (.bool true) Bx ap2).trans jX
        have hko2 := hko1.trans (KeepsOthers.setCell W ⟨w.heap.size + 1 + 1, 0, none⟩ (.bool true))
        generalize W.setCell ⟨w.heap.size + 1 + 1, 0, none⟩ (.bool true) = W2 at *
        have q0 : W2.cell? ⟨Bx, 0, none⟩ = some (.int .i32 r) := by simp [World.cell?, jX2]
        have q1 : W2.cell? ⟨Bx, 1, none⟩ = some (.int .i64 pl) := by simp [World.cell?, jX2]
        have q2 : W2.cell? ⟨Bx, 2, none⟩ = some (.int .i64 sz) := by simp [World.cell?, jX2]
        have q3 : W2.cell? ⟨Bx, 3, none⟩ = some (.bool false) := by simp [World.cell?, jX2]
        have k1 := jC2.y1.cell
        have f1 := jC2.y1.frozen
        have PW := hPW W2.drew hB3'.drew
        clear jC jX hko1 hB2 p0 p1 p2 p3 k0 f0 k2 f2 hX
        gi_region_with_o (refine ⟨trivial, fun _ => by omega, (CallsIn.inRound l (callsIn_wide.2 PW)).mono ?_⟩; rintro e W3 ⟨rfl, hb3⟩; have j3 := jC2.drew.call hb3; have k3 := j3.y1.cell; have f3 := j3.y1.frozen)
        all_goals gi_wp2
        all_goals
          rw [show IntKind.i64.wrap (wp + wx) = wp + wx by rw [IntKind.wrap_i64]; omega]
          have hko : KeepsOthers W (W3.setCell ⟨w.heap.size + 1, 0, none⟩ (.int .i64 (wp + wx))) := ((hko2.trans (KeepsOthers.drew W2)).trans (others_below hb3)).trans (KeepsOthers.setCell W3 ⟨w.heap.size + 1, 0, none⟩ _)
          have hB4 := (hB3'.drew.trans (hb3.mono hB3'.size)).setCell (p := ⟨w.heap.size + 1, 0, none⟩) (by simp) (.int .i64 (wp + wx))
          obtain ⟨s1, s2, s3⟩ := HSW.out
          refine ⟨hko.from _, kp_others hko (hCb.kp (j3.set1 (wp + wx))), ⟨?_, s3⟩, hB4⟩
          rw [s1, s2]
          exact j3.set1 (wp + wx)
    · have HX := HSW.out.2.2
      have hB2 : Below w.heap.size w (W.setCell ⟨w.heap.size, 0, none⟩ (.int .i64 13)) := hB1.setCell (p := ⟨w.heap.size, 0, none⟩) (Nat.le_refl _) _
      gi_wp2
      exact ⟨(KeepsOthers.setCell _ _ _).from _, ⟨rfl, (hCb.set0 13).y0, HX⟩, hB2⟩
  case done =>
    rintro D ys W hD hys ⟨⟨hCb, hbrk⟩, hB1⟩ hK
    have hys' : ys.map (·.1) = pieces s := hys
    rw [hys'] at hCb hbrk
    have HR : Hid (cf s = if hid (pieces s) = true then 14 else if 400 < wS (pieces s) then 10 else 0) := by
      show _ = _
      unfold cf cfL
      rw [hbrk, if_neg (by simp)]
    have k0 := hCb.y0.cell
    have f0 := hCb.y0.frozen
    have k1 := hCb.y1.cell
    have k2 := hCb.y2.cell
    generalize hid (pieces s) = hh at *
    generalize wS (pieces s) = ww at *
    cases hh
    · by_cases h400 : 400 < ww
      · rw [if_neg (by simp), if_pos h400] at HR
        gi_wp2
        have hK2 := (KeepsOthers.setCell W ⟨w.heap.size, 0, none⟩ (.int .i64 10)).same D _ hK rfl
        have g1 := ((hCb.set0 10).y0.kept (grownBy_putObj' _ D (.deferred none)) (fun e => by cases e; omega)).cell
        refine ⟨by simp, .inl ⟨_, _, rfl, run_takeDeferred hK2, ?_⟩⟩
        refine ⟨.int .i64 10, ?_, by rw [HR.out], (hB1.setCell (p := ⟨w.heap.size, 0, none⟩) (Nat.le_refl _) _).trans (belowK_b (w := w) (Nat.le_refl _) _ D _ _ (by omega) hK2 rfl rfl)⟩
        simp [results, Tryd.results110, go_sem, g1]
      · have h400' : ¬ 400 < ww := h400
        rw [if_neg (by simp), if_neg h400] at HR
        gi_wp2
        have hK2 := (KeepsOthers.setCell W ⟨w.heap.size, 0, none⟩ (.int .i64 0)).same D _ hK rfl
        have g1 := ((hCb.set0 0).y0.kept (grownBy_putObj' _ D (.deferred none)) (fun e => by cases e; omega)).cell
        refine ⟨by simp, .inl ⟨_, _, rfl, run_takeDeferred hK2, ?_⟩⟩
        refine ⟨.int .i64 0, ?_, by rw [HR.out], (hB1.setCell (p := ⟨w.heap.size, 0, none⟩) (Nat.le_refl _) _).trans (belowK_b (w := w) (Nat.le_refl _) _ D _ _ (by omega) hK2 rfl rfl)⟩
        simp [results, Tryd.results110, go_sem, g1]
    · rw [if_pos rfl] at HR
      gi_wp2
      have hK2 := (KeepsOthers.setCell W ⟨w.heap.size, 0, none⟩ (.int .i64 14)).same D _ hK rfl
      have g1 := ((hCb.set0 14).y0.kept (grownBy_putObj' _ D (.deferred none)) (fun e => by cases e; omega)).cell
      refine ⟨by simp, .inl ⟨_, _, rfl, run_takeDeferred hK2, ?_⟩⟩
      refine ⟨.int .i64 14, ?_, by rw [HR.out], (hB1.setCell (p := ⟨w.heap.size, 0, none⟩) (Nat.le_refl _) _).trans (belowK_b (w := w) (Nat.le_refl _) _ D _ _ (by omega) hK2 rfl rfl)⟩
      simp [results, Tryd.results110, go_sem, g1]
  case stop =>
    rintro D c pre W hD hpre ⟨⟨rfl, hb0, hbrk⟩, hB1⟩ hK
    obtain ⟨rest, hpp⟩ := hpre
    have HR : Hid (cf s = 13) := by
      show _ = _
      unfold cf cfL
      rw [← hpp, if_pos (brk_more _ hbrk)]
    gi_wp2
    have f1 := (hb0.kept (grownBy_putObj' _ D (.deferred none)) (fun e => by cases e; omega)).cell
    refine ⟨by simp, .inl ⟨_, _, rfl, run_takeDeferred hK, ?_⟩⟩
    refine ⟨.int .i64 13, ?_, by rw [HR.out], hB1.trans (belowK_b (w := w) (Nat.le_refl _) W D _ _ (by omega) hK rfl rfl)⟩
    simp [results, Tryd.results110, go_sem, f1]
end Go.Proofs.YtckjededijgjgaaDoor.Tb
