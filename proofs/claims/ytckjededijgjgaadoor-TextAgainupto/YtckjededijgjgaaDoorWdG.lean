import Derived.Test.YtckjededijgjgaaDoorWdB
import Derived.Test.YtckjededijgjgaaDoorPcQ
import Derived.Test.YtckjededijgjgaaDoorCl
namespace Go.Proofs.YtckjededijgjgaaDoor.Wd
open Go.RowKit Go.Shelf
open Go.Proofs.YtckjededijgjgaaDoor.Pc (P4 encP pieces Kp cut_in cut_stops_q Ofs kp_t kp_b kp_others)
open Go.Proofs.YtckjededijgjgaaDoor.Nm (cellsP box_turn box_below others_below)
open Go.Proofs.YtckjededijgjgaaDoor.Enc (kindF Spans hide)
attribute [local go_sem] Oper.semAt_some
set_option linter.unusedVariables false

/-- where Clip cuts -/
def clipG (cols : Int) : List P4 → Int → Option Int
  | [], _ => none
  | x :: t, u => if u + wF x > cols then some x.2.1 else clipG cols t (u + wF x)
def clipT (s : ByteArray) (cols : Int) : ByteArray := match clipG cols (pieces s) 0 with
  | some p => s.extract 0 p.toNat
  | none => s

theorem clone_any (s : ByteArray) (w : World) (hs : s.size ≤ 281474976710656) : Calls Tryd.prog 64 #[.string s] w fun e w' => e = .returned (.string s) ∧ Below w.heap.size w w' := by
  have C := Tryd.stringslite_Clone s w hs
  go_enter Tryd.func64, Tryd.ntmps64
  go_wp2_with fail
  refine C.mono ?_; rintro e w' ⟨rfl, hb⟩
  go_wp2
  go_ret
  exact ⟨rfl, hb⟩

set_option maxRecDepth 100000 in
set_option maxHeartbeats 1000000 in
theorem clip_in (n : Nat) (hn : 4 ≤ n) (s : ByteArray) (hs : s.size ≤ 1048576) (cols : Int) (hc : 0 ≤ cols) (hc1 : cols ≤ 9223372036854775807) (w : World) (R off cap : Nat) (hS : Spans w R off cap) :
    CallsIn Fence.wide n Tryd.prog 35 #[.string s, .int .i64 cols] w fun e W' => e = .returned (.string (clipT s cols)) ∧ Below w.heap.size w W' := by
  have h1 : 1 ≤ n := by omega
  have mixed : Tryd.prog.follows .mixedOrders = true := by kernel_rfl
  refine callsIn_of_wp_marks Tryd.func35 rfl trivial ?_ rfl
  simp only [Tryd.ntmps35, List.size_toArray, List.length_cons, List.length_nil, Nat.reduceAdd, Nat.reduceSub, Array.replicate_succ, Array.replicate_zero, List.push_toArray, List.append_toArray, List.nil_append, List.cons_append]
  gi_wp2_with (refine ⟨trivial, ?_⟩; gi_at_call 50; refine (cut_in _ _ _).mono ?_; rintro e w' ⟨rfl, rfl⟩)
  have x0 := ((((Boxed.new w 9 (.string s)).alloc (.cells #[.int .i64 cols] 3)).alloc (.cells #[.string ⟨#[]⟩] 9)).alloc (.cells #[.int .i64 0] 3)).alloc (.cells #[.string s] 9)
  have x1 := (((Boxed.new (w.alloc (.cells #[.string s] 9)) 3 (.int .i64 cols)).alloc (.cells #[.string ⟨#[]⟩] 9)).alloc (.cells #[.int .i64 0] 3)).alloc (.cells #[.string s] 9)
  have x2 := ((Boxed.new ((w.alloc (.cells #[.string s] 9)).alloc (.cells #[.int .i64 cols] 3)) 9 (.string ⟨#[]⟩)).alloc (.cells #[.int .i64 0] 3)).alloc (.cells #[.string s] 9)
  have x3 := (Boxed.new (((w.alloc (.cells #[.string s] 9)).alloc (.cells #[.int .i64 cols] 3)).alloc (.cells #[.string ⟨#[]⟩] 9)) 3 (.int .i64 0)).alloc (.cells #[.string s] 9)
  have x4 := Boxed.new ((((w.alloc (.cells #[.string s] 9)).alloc (.cells #[.int .i64 cols] 3)).alloc (.cells #[.string ⟨#[]⟩] 9)).alloc (.cells #[.int .i64 0] 3)) 9 (.string s)
  simp only [World.size_alloc] at x1 x2 x3 x4
  have hB3 : Below w.heap.size w (((((w.alloc (.cells #[.string s] 9)).alloc (.cells #[.int .i64 cols] 3)).alloc (.cells #[.string ⟨#[]⟩] 9)).alloc (.cells #[.int .i64 0] 3)).alloc (.cells #[.string s] 9)) := (((((Below.refl _ w).alloc (Nat.le_refl _) _).alloc (by simp) _).alloc (by simp; omega) _).alloc (by simp; omega) _).alloc (by simp; omega) _
  have hsz3 : (((((w.alloc (.cells #[.string s] 9)).alloc (.cells #[.int .i64 cols] 3)).alloc (.cells #[.string ⟨#[]⟩] 9)).alloc (.cells #[.int .i64 0] 3)).alloc (.cells #[.string s] 9)).heap.size = w.heap.size + 5 := by simp
  obtain ⟨W0, hW0⟩ : ∃ W0, ((((w.alloc (.cells #[.string s] 9)).alloc (.cells #[.int .i64 cols] 3)).alloc (.cells #[.string ⟨#[]⟩] 9)).alloc (.cells #[.int .i64 0] 3)).alloc (.cells #[.string s] 9) = W0 := ⟨_, rfl⟩
  rw [hW0] at x0 x1 x2 x3 x4 hB3 hsz3 ⊢
  clear hW0
  refine wpIn_rangeFunc_ownH rfl h1 (gf := 89) (lb := #[.pointer (some ⟨w.heap.size + 1 + 1 + 1 + 1, 0, none⟩)]) rfl trivial (enters_of Tryd.func89 (by kernel_rfl) rfl)
    (cut_stops_q (n - 1) (by omega) (w.heap.size + 1 + 1 + 1 + 1) s (by omega) W0 x4) kp_t kp_b (Below.refl _ _) (fun _ => rfl)
    (fun pre W => ((Boxed W w.heap.size 9 (.string s) ∧ Boxed W (w.heap.size + 1) 3 (.int .i64 cols) ∧ Boxed W (w.heap.size + 1 + 1) 9 (.string ⟨#[]⟩) ∧ Boxed W (w.heap.size + 1 + 1 + 1) 3 (.int .i64 (wS (pre.map (·.1)))) ∧ Boxed W (w.heap.size + 1 + 1 + 1 + 1) 9 (.string s)) ∧ ∀ rest, clipG cols (pre.map (·.1) ++ rest) 0 = clipG cols rest (wS (pre.map (·.1)))) ∧ Below w.heap.size w W)
    (fun c pre W => (c = Code.ret ∧ ∃ p : Nat, p ≤ s.size ∧ Boxed W (w.heap.size + 1 + 1) 9 (.string (s.extract 0 p)) ∧ ∀ rest, clipG cols (pre.map (·.1) ++ rest) 0 = some (p : Int)) ∧ Below w.heap.size w W)
    (OwnFrom.and (Own.from (fun pre X Y row hs hg hr => ?_) _) (ownFrom_below (Nat.le_refl _) (by omega)))
    (fun c => OwnFrom.and (Own.from (fun pre X Y row hs hg hr => ?_) _) (ownFrom_below (Nat.le_refl _) (by omega)))
    ⟨⟨⟨x0, x1, x2, x3, x4⟩, fun rest => rfl⟩, hB3⟩
    (fun x a' W => ∃ Bx, W.heap[Bx]? = some (.cells (cellsP x.1).toArray 55) ∧ a' = { tmps := #[.string s, .int .i64 cols, .pointer (some ⟨w.heap.size, 0, none⟩), .pointer (some ⟨w.heap.size + 1, 0, none⟩), .pointer (some ⟨w.heap.size + 1 + 1, 0, none⟩), .pointer (some ⟨w.heap.size + 1 + 1 + 1, 0, none⟩), .pointer (some ⟨Bx, 0, none⟩), .int .i64 cols, .bool (decide (cols < 0)), .string s, .func (.func 89) #[] #[.pointer (some ⟨w.heap.size + 1 + 1 + 1 + 1, 0, none⟩)], encP x.1, undef, undef, undef, undef, undef, undef, undef, undef, undef, undef, undef, undef, undef, undef], defers := [] })
    (fun x a' _ X Y row hs hg hr => by
      obtain ⟨Bx, h1, h2⟩ := hs
      refine ⟨Bx, (hg.block Bx (Array.getElem?_eq_some_iff.1 h1).1 (fun e => ?_)).trans h1, h2⟩
      obtain ⟨_, o, ho, hc⟩ := hr Bx e.symm
      rw [h1] at ho; cases ho; cases hc)
    ?assign ?body ?done ?stop
  · obtain ⟨⟨y0, y1, y2, y3, y4⟩, hp⟩ := hs
    exact ⟨⟨box_turn y0 hg hr, box_turn y1 hg hr, box_turn y2 hg hr, box_turn y3 hg hr, box_turn y4 hg hr⟩, hp⟩
  · obtain ⟨rfl, p, hp, y2, hq⟩ := hs
    exact ⟨rfl, p, hp, box_turn y2 hg hr, hq⟩
  case assign =>
    rintro l pre x W K ⟨⟨⟨y0, y1, y2, y3, y4⟩, hp⟩, hB1⟩ hK
    simp only [encP]
    gi_wp2
    exact hK _ _ ((KeepsOthers.alloc _ _).from _) (kp_others (KeepsOthers.alloc _ _) (fun v hv => hv.alloc _)) ⟨⟨⟨y0.alloc _, y1.alloc _, y2.alloc _, y3.alloc _, y4.alloc _⟩, hp⟩, hB1.alloc hB1.size _⟩ ⟨W.heap.size, World.alloc_heap_new W _, rfl⟩
  case body =>
    rintro l pre x a' W hl hq ⟨⟨⟨y0, y1, y2, y3, y4⟩, hrest⟩, hB1⟩ ⟨Bx, hX, rfl⟩ hlt
    obtain ⟨pos, hpos, hplace⟩ := x.2.place
    have hml : (pre.map (·.1)).length = pre.length := by simp
    have hwr := wS_range (pre.map (·.1))
    rw [hml] at hwr
    obtain ⟨hlo, hhi⟩ := hwr
    have hx0 := wF_range x.1
    have hsn := wS_snoc (pre.map (·.1)) x.1
    have HSN := hide hsn
    have HR := hide hrest
    clear hsn hrest
    have C := pieceWidth_any x.1 W.drew R off cap (hS.below hB1.drew (Nat.le_refl _))
    obtain ⟨z0, z1⟩ := hx0
    have HST : Hid (∀ rest, clipG cols (x.1 :: rest) (wS (pre.map (·.1))) = if wS (pre.map (·.1)) + wF x.1 > cols then some x.1.2.1 else clipG cols rest (wS (pre.map (·.1)) + wF x.1)) := fun rest => rfl
    have hmap : (pre ++ [x]).map (·.1) = pre.map (·.1) ++ [x.1] := by simp
    rw [hplace] at HST
    generalize hwx : wF x.1 = wx at *
    generalize hwp : wS (pre.map (·.1)) = wp at *
    have hwpb : wp ≤ 2097152 := by omega
    clear hwx hwp hml hhi
    have p0 : W.cell? ⟨Bx, 0, none⟩ = some (.int .i32 x.1.1) := by simp [World.cell?, hX]
    have p1 : W.cell? ⟨Bx, 1, none⟩ = some (.int .i64 (pos : Int)) := by rw [← hplace]; simp [World.cell?, hX]
    have p2 : W.cell? ⟨Bx, 2, none⟩ = some (.int .i64 x.1.2.2.1) := by simp [World.cell?, hX]
    have p3 : W.cell? ⟨Bx, 3, none⟩ = some (.bool x.1.2.2.2) := by simp [World.cell?, hX]
    have k3 := y3.cell
    have f3 := y3.frozen
    have hBx : Bx ≠ w.heap.size + 1 + 1 + 1 := fun e => by
      have : W.heap[w.heap.size + 1 + 1 + 1]? = some (.cells #[.int .i64 wp] 3 (0, 0)) := y3
      rw [← e, hX] at this; cases this
    have C' : Calls Tryd.prog 73 #[.agg #[.int .i32 x.1.1, .int .i64 (pos : Int), .int .i64 x.1.2.2.1, .bool x.1.2.2.2]] W.drew fun e w' => e = .returned (.int .i64 wx) ∧ Below W.drew.heap.size W.drew w' := by
      rw [← hplace]; exact C
    clear C
    gi_wp2_with fail
    gi_region_with_o (refine ⟨trivial, fun _ => by omega, (CallsIn.inRound l (callsIn_wide.2 C')).mono ?_⟩; rintro e W1 ⟨rfl, hb⟩; have j3 := box_below (show Boxed W.drew (w.heap.size + 1 + 1 + 1) 3 (.int .i64 wp) from y3) hb; have k3' := j3.cell; have f3' := j3.frozen)
    all_goals
      rw [show IntKind.i64.wrap (wp + wx) = wp + wx by rw [IntKind.wrap_i64]; omega]
      have j0 := (box_below (show Boxed W.drew w.heap.size 9 (.string s) from y0) hb).other (B' := w.heap.size + 1 + 1 + 1) (by omega) (.int .i64 (wp + wx))
      have j1 := (box_below (show Boxed W.drew (w.heap.size + 1) 3 (.int .i64 cols) from y1) hb).other (B' := w.heap.size + 1 + 1 + 1) (by omega) (.int .i64 (wp + wx))
      have j2 := (box_below (show Boxed W.drew (w.heap.size + 1 + 1) 9 (.string ⟨#[]⟩) from y2) hb).other (B' := w.heap.size + 1 + 1 + 1) (by omega) (.int .i64 (wp + wx))
      have hkp : ∀ u, Boxed W (w.heap.size + 1 + 1 + 1 + 1) 9 u → Boxed (W1.setCell ⟨w.heap.size + 1 + 1 + 1, 0, none⟩ (.int .i64 (wp + wx))) (w.heap.size + 1 + 1 + 1 + 1) 9 u := fun u hu => (box_below (show Boxed W.drew (w.heap.size + 1 + 1 + 1 + 1) 9 u from hu) hb).other (by omega) _
      have j4 := hkp _ y4
      have j3' := j3.set (.int .i64 (wp + wx))
      have hXW : W1.heap[Bx]? = some (.cells (cellsP x.1).toArray 55) := (hb.block Bx (show Bx < W.drew.heap.size from (Array.getElem?_eq_some_iff.1 hX).1)).trans hX
      have pa : (W1.setCell ⟨w.heap.size + 1 + 1 + 1, 0, none⟩ (.int .i64 (wp + wx))).cell? ⟨Bx, 1, none⟩ = some (.int .i64 (pos : Int)) := by
        rw [World.cell?_setCell_other _ _ _ _ (fun e => hBx (congrArg Addr.block e).symm), ← hplace]
        simp [World.cell?, hXW]
      have hko : KeepsOthers W (W1.setCell ⟨w.heap.size + 1 + 1 + 1, 0, none⟩ (.int .i64 (wp + wx))) := ((KeepsOthers.drew W).trans (others_below hb)).trans (KeepsOthers.setCell W1 ⟨w.heap.size + 1 + 1 + 1, 0, none⟩ _)
      have hB2 : Below w.heap.size w (W1.setCell ⟨w.heap.size + 1 + 1 + 1, 0, none⟩ (.int .i64 (wp + wx))) := (hB1.drew.trans (hb.mono hB1.size)).setCell (p := ⟨w.heap.size + 1 + 1 + 1, 0, none⟩) (by simp; omega) _
      clear j3 k3' f3' hXW hb k3 f3 p0 p1 p2 p3
      generalize W1.setCell ⟨w.heap.size + 1 + 1 + 1, 0, none⟩ (.int .i64 (wp + wx)) = W2 at *
      have k0 := j0.cell
      have k1 := j1.cell
      have k2 := j2.cell
      have k3 := j3'.cell
      by_cases hgt : wp + wx > cols
      · have CL := clone_any (s.extract 0 pos) W2 (by simp [ByteArray.size_extract]; omega)
        have HX : Hid (∀ rest, clipG cols ((pre ++ [x]).map (·.1) ++ rest) 0 = some (pos : Int)) := by
          intro rest
          rw [hmap, List.append_assoc, HR.out]
          show clipG cols (x.1 :: rest) wp = _
          rw [HST.out, if_pos hgt]
        have hposI : (pos : Int) ≤ (s.size : Int) := by omega
        gi_wp2_with fail
        refine ⟨trivial, fun _ => by omega, (CallsIn.inRound l (callsIn_wide.2 CL)).mono ?_⟩
        rintro e W3 ⟨rfl, hb3⟩
        have i2 := box_below j2 hb3
        have k2' := i2.cell
        have z2' := i2.frozen
        gi_wp2
        exact ⟨((hko.trans (others_below hb3)).trans (KeepsOthers.setCell W3 ⟨w.heap.size + 1 + 1, 0, none⟩ _)).from _, ⟨rfl, pos, by omega, i2.set _, HX.out⟩, (hB2.trans (hb3.mono hB2.size)).setCell (p := ⟨w.heap.size + 1 + 1, 0, none⟩) (by simp; omega) _⟩
      · have hgt' : ¬ cols < wp + wx := hgt
        have HX : Hid (∀ rest, clipG cols ((pre ++ [x]).map (·.1) ++ rest) 0 = clipG cols rest (wp + wx)) := by
          intro rest
          rw [hmap, List.append_assoc, HR.out]
          show clipG cols (x.1 :: rest) wp = _
          rw [HST.out, if_neg hgt]
        gi_wp2
        refine ⟨hko.from _, kp_others hko hkp, ⟨⟨j0, j1, j2, ?_, j4⟩, ?_⟩, hB2⟩
        · rw [hmap, HSN.out]; exact j3'
        · intro rest; rw [HX.out rest, hmap, HSN.out]
  case done =>
    rintro D ys W hD hys ⟨⟨⟨y0, y1, y2, y3, y4⟩, hrest⟩, hB1⟩ hK
    have hres : clipT s cols = s := by
      have := hrest []
      have hys' : ys.map (·.1) = pieces s := hys
      rw [List.append_nil, hys'] at this
      unfold clipT
      rw [this]
      rfl
    have HRS := hide hres
    clear hres hrest
    have CL := clone_any s W (by omega)
    have k0 := y0.cell
    gi_wp2_with fail
    refine ⟨trivial, (callsIn_wide.2 CL).mono ?_⟩
    rintro e W1 ⟨rfl, hb1⟩
    have i2 := box_below y2 hb1
    have k2 := i2.cell
    have z2 := i2.frozen
    have hK1 := (others_below hb1).same D _ hK rfl
    gi_wp2
    have hK2 := (KeepsOthers.setCell W1 ⟨w.heap.size + 1 + 1, 0, none⟩ (.string s)).same D _ hK1 rfl
    have f2 := ((i2.set (.string s)).kept (grownBy_putObj' _ D (.deferred none)) (fun e => by cases e; omega)).cell
    refine ⟨by simp, .inl ⟨_, _, rfl, run_takeDeferred hK2, ?_⟩⟩
    refine ⟨.string s, ?_, by rw [HRS.out], ((hB1.trans (hb1.mono hB1.size)).setCell (p := ⟨w.heap.size + 1 + 1, 0, none⟩) (by simp; omega) _).trans (belowK_b (w := w) (Nat.le_refl _) _ D _ _ (by omega) hK2 rfl rfl)⟩
    simp [results, Tryd.results35, go_sem, f2]
  case stop =>
    rintro D c pre W hD hpre ⟨⟨rfl, p, hp, y2, hrest⟩, hB1⟩ hK
    obtain ⟨rest, hpp⟩ := hpre
    have hres : clipT s cols = s.extract 0 p := by
      unfold clipT
      rw [← hpp]
      have := hrest rest
      rw [this]
      simp
    have HRS := hide hres
    clear hrest hres
    gi_wp2
    have f2 := (y2.kept (grownBy_putObj' _ D (.deferred none)) (fun e => by cases e; omega)).cell
    refine ⟨by simp, .inl ⟨_, _, rfl, run_takeDeferred hK, ?_⟩⟩
    refine ⟨.string (s.extract 0 p), ?_, by rw [HRS.out], hB1.trans (belowK_b (w := w) (Nat.le_refl _) W D _ _ (by omega) hK rfl rfl)⟩
    simp [results, Tryd.results35, go_sem, f2]

def clipR (s : ByteArray) (cols : Int) : ByteArray := if cols < 0 then ⟨#[]⟩ else clipT s cols
/-- what Clip answers -/
theorem clip_any (s : ByteArray) (hs : s.size ≤ 1048576) (cols : Int) (hc1 : cols ≤ 9223372036854775807) (w : World) (R off cap : Nat) (hS : Spans w R off cap) :
    Calls Tryd.prog 35 #[.string s, .int .i64 cols] w fun e W' => e = .returned (.string (clipR s cols)) ∧ Below w.heap.size w W' := by
  unfold clipR
  by_cases hc : cols < 0
  · rw [if_pos hc]
    go_enter Tryd.func35, Tryd.ntmps35
    go_wp2
    refine bodyPost_ret (v := .string ⟨#[]⟩) (by simp [results, Tryd.results35, go_sem]) rfl ⟨rfl, ?_⟩
    exact (((Below.refl _ w).alloc (Nat.le_refl _) _).alloc (by simp) _).alloc (by simp; omega) _
  · rw [if_neg hc]
    exact (callsIn_wide (n := 4)).1 (clip_in 4 (by omega) s hs cols (by omega) hc1 w R off cap hS)
end Go.Proofs.YtckjededijgjgaaDoor.Wd
