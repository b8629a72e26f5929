import Derived.Test.YtckjededijgjgaaDoorUqE
import Derived.Test.YtckjededijgjgaaDoorWdG
import Derived.Test.YtckjededijgjgaaDoorUrG
namespace Go.Proofs.YtckjededijgjgaaDoor.Bw
open Go.RowKit Go.Shelf
open Go.Proofs.YtckjededijgjgaaDoor.Pc (P4 encP pieces Kp cut_in cut_stops_q Ofs kp_t kp_b kp_others pcF)
open Go.Proofs.YtckjededijgjgaaDoor.Nm (cellsP box_turn box_below others_below)
open Go.Proofs.YtckjededijgjgaaDoor.Enc (Spans plainF plain_any)
open Go.Proofs.YtckjededijgjgaaDoor.Qt (of_place)
set_option linter.unusedVariables false

theorem hide {p : Prop} (h : p) : Hid p := h
/-- is it a blank? -/
def blB (c : Int) : Bool := c == 32 || c == 9
set_option maxHeartbeats 400000 in
theorem isBlank_any (c : Int) (w : World) : Calls Tryd.prog 105 #[.int .u8 c] w fun e w' => e = .returned (.bool (blB c)) ∧ w' = w := by
  unfold blB
  by_cases h : c = 32
  · subst h
    go_enter Tryd.func105, Tryd.ntmps105
    go_wp2
    go_ret
    exact ⟨rfl, rfl⟩
  · have b : (c == 32) = false := beq_eq_false_iff_ne.2 h
    rw [b, Bool.false_or]
    go_enter Tryd.func105, Tryd.ntmps105
    go_wp2
    go_ret
    exact ⟨rfl, rfl⟩

/-- why a piece may not stand in a bare word -/
def bfF (r : Int) (br : Bool) : Int := if br = true then 13 else if r = 34 then 14 else if r = 92 then 14 else if plainF r = true then 0 else 14
set_option maxHeartbeats 1000000 in
theorem bareFault_any (r pl sz : Int) (br : Bool) (h0 : 0 ≤ r) (h1 : r ≤ 1114111) (w : World) (R off cap : Nat) (hS : Spans w R off cap) :
    Calls Tryd.prog 116 #[.agg #[.int .i32 r, .int .i64 pl, .int .i64 sz, .bool br]] w fun e w' => e = .returned (.int .i64 (bfF r br)) ∧ Below w.heap.size w w' := by
  have hbw := (Below.refl w.heap.size w).alloc (Nat.le_refl _) (.cells #[.int .i32 r, .int .i64 pl, .int .i64 sz, .bool br] 55)
  have PL := plain_any r _ R off cap (hS.below hbw (Nat.le_refl _)) (by omega) (by omega)
  unfold bfF
  cases br
  · rw [if_neg (by simp)]
    by_cases c1 : r = 34
    · rw [if_pos c1]
      have b1 : (r == 34) = true := by rw [c1]; rfl
      clear c1
      go_enter Tryd.func116, Tryd.ntmps116
      go_wp2
      go_ret
      exact ⟨rfl, hbw⟩
    rw [if_neg c1]
    have b1 : (r == 34) = false := beq_eq_false_iff_ne.2 c1
    by_cases c2 : r = 92
    · rw [if_pos c2]
      have b2 : (r == 92) = true := by rw [c2]; rfl
      clear c1 c2
      go_enter Tryd.func116, Tryd.ntmps116
      go_wp2
      go_ret
      exact ⟨rfl, hbw⟩
    rw [if_neg c2]
    have b2 : (r == 92) = false := beq_eq_false_iff_ne.2 c2
    clear c1 c2
    cases hp : plainF r
    · rw [if_neg (by simp)]
      rw [hp] at PL
      clear hp
      go_enter Tryd.func116, Tryd.ntmps116
      go_wp2_with fail
      refine PL.mono ?_; rintro e w1 ⟨rfl, hb⟩
      go_wp2
      go_ret
      exact ⟨rfl, hbw.trans (hb.mono (by simp))⟩
    · rw [if_pos rfl]
      rw [hp] at PL
      clear hp
      go_enter Tryd.func116, Tryd.ntmps116
      go_wp2_with fail
      refine PL.mono ?_; rintro e w1 ⟨rfl, hb⟩
      go_wp2
      go_ret
      exact ⟨rfl, hbw.trans (hb.mono (by simp))⟩
  · rw [if_pos rfl]
    go_enter Tryd.func116, Tryd.ntmps116
    go_wp2
    go_ret
    exact ⟨rfl, hbw⟩
end Go.Proofs.YtckjededijgjgaaDoor.Bw
namespace Go.Proofs.YtckjededijgjgaaDoor.Bw
open Go.RowKit Go.Shelf
open Go.Proofs.YtckjededijgjgaaDoor.Pc (P4 encP pieces Kp cut_in cut_stops_q Ofs kp_t kp_b kp_others pcF)
open Go.Proofs.YtckjededijgjgaaDoor.Nm (cellsP box_turn box_below others_below)
open Go.Proofs.YtckjededijgjgaaDoor.Enc (Spans plainF plain_any)
open Go.Proofs.YtckjededijgjgaaDoor.Qt (of_place sel sel_t sel_f)
open Go.Proofs.YtckjededijgjgaaDoor.Wd (clone_any)
attribute [local go_sem] Oper.semAt_some
set_option linter.unusedVariables false

/-- what readBare finds in pieces: the text, a place, an error -/
def bareG (s : ByteArray) : List P4 → List UInt8 × Int × Int
  | [] => (s.data.toList, (s.size : Int), 0)
  | x :: t =>
    if blB ((s.get! x.2.1.toNat).toNat : Int) = true then ((s.extract 0 x.2.1.toNat).data.toList, x.2.1, 0)
    else if bfF x.1 x.2.2.2 = 0 then bareG s t
    else ([], x.2.1, bfF x.1 x.2.2.2)

/-- the boxes of readBare -/
structure Rb (b : Nat) (s o : ByteArray) (p e : Int) (W : World) : Prop where
  y0 : Boxed W b 9 (.string s)
  y1 : Boxed W (b + 1) 9 (.string o)
  y2 : Boxed W (b + 1 + 1) 3 (.int .i64 p)
  y3 : Boxed W (b + 1 + 1 + 1) 22 (.int .i64 e)
  y4 : Boxed W (b + 1 + 1 + 1 + 1) 9 (.string s)

theorem Rb.turn {b : Nat} {X Y : World} {s o : ByteArray} {p e : Int} {row : Option Nat} (h : Rb b s o p e X) (hg : X.grownBy Y row) (hr : ∀ r, row = some r → ∃ o : Obj, X.heap[r]? = some o ∧ o.isCells = false) : Rb b s o p e Y :=
  ⟨box_turn h.y0 hg hr, box_turn h.y1 hg hr, box_turn h.y2 hg hr, box_turn h.y3 hg hr, box_turn h.y4 hg hr⟩
theorem Rb.call {b : Nat} {X Y : World} {s o : ByteArray} {p e : Int} (h : Rb b s o p e X) (hb : Below X.heap.size X Y) : Rb b s o p e Y :=
  ⟨box_below h.y0 hb, box_below h.y1 hb, box_below h.y2 hb, box_below h.y3 hb, box_below h.y4 hb⟩
theorem Rb.alloc {b : Nat} {X : World} {s o : ByteArray} {p e : Int} (h : Rb b s o p e X) (x : Obj) : Rb b s o p e (X.alloc x) :=
  h.call ((Below.refl _ _).alloc (Nat.le_refl _) x)
theorem Rb.drew {b : Nat} {X : World} {s o : ByteArray} {p e : Int} (h : Rb b s o p e X) : Rb b s o p e X.drew := ⟨h.y0, h.y1, h.y2, h.y3, h.y4⟩
theorem Rb.set1 {b : Nat} {X : World} {s o : ByteArray} {p e : Int} (h : Rb b s o p e X) (o' : ByteArray) : Rb b s o' p e (X.setCell ⟨b + 1, 0, none⟩ (.string o')) :=
  ⟨h.y0.other (by omega) _, h.y1.set _, h.y2.other (by omega) _, h.y3.other (by omega) _, h.y4.other (by omega) _⟩
theorem Rb.set2 {b : Nat} {X : World} {s o : ByteArray} {p e : Int} (h : Rb b s o p e X) (p' : Int) : Rb b s o p' e (X.setCell ⟨b + 1 + 1, 0, none⟩ (.int .i64 p')) :=
  ⟨h.y0.other (by omega) _, h.y1.other (by omega) _, h.y2.set _, h.y3.other (by omega) _, h.y4.other (by omega) _⟩
theorem Rb.set3 {b : Nat} {X : World} {s o : ByteArray} {p e : Int} (h : Rb b s o p e X) (e' : Int) : Rb b s o p e' (X.setCell ⟨b + 1 + 1 + 1, 0, none⟩ (.int .i64 e')) :=
  ⟨h.y0.other (by omega) _, h.y1.other (by omega) _, h.y2.other (by omega) _, h.y3.set _, h.y4.other (by omega) _⟩
theorem Rb.kp {b : Nat} {X Y : World} {s o o' : ByteArray} {p e p' e' : Int} (h : Rb b s o p e X) (h' : Rb b s o' p' e' Y) : ∀ u, Boxed X (b + 1 + 1 + 1 + 1) 9 u → Boxed Y (b + 1 + 1 + 1 + 1) 9 u := by
  intro u hu
  have h1 : X.heap[b + 1 + 1 + 1 + 1]? = some (.cells #[.string s] 9 (0, 0)) := h.y4
  have h2 : X.heap[b + 1 + 1 + 1 + 1]? = some (.cells #[u] 9 (0, 0)) := hu
  rw [h1] at h2
  cases h2
  exact h'.y4
/-- a piece's block is none of the boxes -/
theorem Rb.apart {b : Nat} {X : World} {s o : ByteArray} {p e : Int} {Bx : Nat} {c : Array Value} (h : Rb b s o p e X) (hX : X.heap[Bx]? = some (.cells c 55 (0, 0))) : Bx ≠ b ∧ Bx ≠ b + 1 ∧ Bx ≠ b + 1 + 1 ∧ Bx ≠ b + 1 + 1 + 1 := by
  refine ⟨fun e => ?_, fun e => ?_, fun e => ?_, fun e => ?_⟩
  · have : X.heap[b]? = some (.cells #[_] 9 (0, 0)) := h.y0
    rw [← e, hX] at this; cases this
  · have : X.heap[b + 1]? = some (.cells #[_] 9 (0, 0)) := h.y1
    rw [← e, hX] at this; cases this
  · have : X.heap[b + 1 + 1]? = some (.cells #[_] 3 (0, 0)) := h.y2
    rw [← e, hX] at this; cases this
  · have : X.heap[b + 1 + 1 + 1]? = some (.cells #[_] 22 (0, 0)) := h.y3
    rw [← e, hX] at this; cases this
theorem lt_cases10 {i : Nat} (h : i < 10) : i = 0 ∨ i = 1 ∨ i = 2 ∨ i = 3 ∨ i = 4 ∨ i = 5 ∨ i = 6 ∨ i = 7 ∨ i = 8 ∨ i = 9 := by omega

set_option maxRecDepth 100000 in
set_option maxHeartbeats 4000000 in
theorem readBare_in (n : Nat) (hn : 4 ≤ n) (s : ByteArray) (hs : s.size ≤ 11000000) (w : World) (R off cap : Nat) (hS : Spans w R off cap) :
    CallsIn Fence.wide n Tryd.prog 97 #[.string s] w fun e W' => e = .returned (.tuple #[.string ⟨(bareG s (pieces s)).1.toArray⟩, .int .i64 (bareG s (pieces s)).2.1, .int .i64 (bareG s (pieces s)).2.2]) ∧ Below w.heap.size w W' := by
  have h1 : 1 ≤ n := by omega
  have mixed : Tryd.prog.follows .mixedOrders = true := by kernel_rfl
  refine callsIn_of_wp_marks Tryd.func97 rfl trivial ?_ rfl
  simp only [Tryd.ntmps97, List.size_toArray, List.length_cons, List.length_nil, Nat.reduceAdd, Nat.reduceSub, Array.replicate_succ, Array.replicate_zero, List.push_toArray, List.append_toArray, List.nil_append, List.cons_append]
  gi_wp2_with (refine ⟨trivial, ?_⟩; gi_at_call 50; refine (cut_in _ _ _).mono ?_; rintro e w' ⟨rfl, rfl⟩)
  have x0 := ((((Boxed.new w 9 (.string s)).alloc (.cells #[.string ⟨#[]⟩] 9)).alloc (.cells #[.int .i64 0] 3)).alloc (.cells #[.int .i64 0] 22)).alloc (.cells #[.string s] 9)
  have x1 := (((Boxed.new (w.alloc (.cells #[.string s] 9)) 9 (.string ⟨#[]⟩)).alloc (.cells #[.int .i64 0] 3)).alloc (.cells #[.int .i64 0] 22)).alloc (.cells #[.string s] 9)
  have x2 := ((Boxed.new ((w.alloc (.cells #[.string s] 9)).alloc (.cells #[.string ⟨#[]⟩] 9)) 3 (.int .i64 0)).alloc (.cells #[.int .i64 0] 22)).alloc (.cells #[.string s] 9)
  have x3 := (Boxed.new (((w.alloc (.cells #[.string s] 9)).alloc (.cells #[.string ⟨#[]⟩] 9)).alloc (.cells #[.int .i64 0] 3)) 22 (.int .i64 0)).alloc (.cells #[.string s] 9)
  have x4 := Boxed.new ((((w.alloc (.cells #[.string s] 9)).alloc (.cells #[.string ⟨#[]⟩] 9)).alloc (.cells #[.int .i64 0] 3)).alloc (.cells #[.int .i64 0] 22)) 9 (.string s)
  simp only [World.size_alloc] at x1 x2 x3 x4
  have hB3 : Below w.heap.size w (((((w.alloc (.cells #[.string s] 9)).alloc (.cells #[.string ⟨#[]⟩] 9)).alloc (.cells #[.int .i64 0] 3)).alloc (.cells #[.int .i64 0] 22)).alloc (.cells #[.string s] 9)) := (((((Below.refl _ w).alloc (Nat.le_refl _) _).alloc (by simp) _).alloc (by simp; omega) _).alloc (by simp; omega) _).alloc (by simp; omega) _
  have hsz3 : (((((w.alloc (.cells #[.string s] 9)).alloc (.cells #[.string ⟨#[]⟩] 9)).alloc (.cells #[.int .i64 0] 3)).alloc (.cells #[.int .i64 0] 22)).alloc (.cells #[.string s] 9)).heap.size = w.heap.size + 5 := by simp
  obtain ⟨W0, hW0⟩ : ∃ W0, (((((w.alloc (.cells #[.string s] 9)).alloc (.cells #[.string ⟨#[]⟩] 9)).alloc (.cells #[.int .i64 0] 3)).alloc (.cells #[.int .i64 0] 22)).alloc (.cells #[.string s] 9)) = W0 := ⟨_, rfl⟩
  rw [hW0] at x0 x1 x2 x3 x4 hB3 hsz3 ⊢
  clear hW0
  refine wpIn_rangeFunc_ownH rfl h1 (gf := 89) (lb := #[.pointer (some ⟨w.heap.size + 1 + 1 + 1 + 1, 0, none⟩)]) rfl trivial (enters_of Tryd.func89 (by kernel_rfl) rfl)
    (cut_stops_q (n - 1) (by omega) (w.heap.size + 1 + 1 + 1 + 1) s (by omega) W0 x4) kp_t kp_b (Below.refl _ _) (fun _ => rfl)
    (fun pre W => (Rb w.heap.size s ⟨#[]⟩ 0 0 W ∧ ∀ rest, bareG s (pre.map (·.1) ++ rest) = bareG s rest) ∧ Below w.heap.size w W)
    (fun c pre W => (c = Code.ret ∧ ∃ (o : ByteArray) (at_ e : Int), Rb w.heap.size s o at_ e W ∧ ∀ rest, bareG s (pre.map (·.1) ++ rest) = (o.data.toList, at_, e)) ∧ Below w.heap.size w W)
    (OwnFrom.and (Own.from (fun pre X Y row hs hg hr => ?_) _) (ownFrom_below (Nat.le_refl _) (by omega)))
    (fun c => OwnFrom.and (Own.from (fun pre X Y row hs hg hr => ?_) _) (ownFrom_below (Nat.le_refl _) (by omega)))
    ⟨⟨⟨x0, x1, x2, x3, x4⟩, fun rest => rfl⟩, hB3⟩
    (fun x a' W => ∃ Bx, W.heap[Bx]? = some (.cells (cellsP x.1).toArray 55) ∧ a' = { tmps := #[.string s, .pointer (some ⟨w.heap.size, 0, none⟩), .pointer (some ⟨w.heap.size + 1, 0, none⟩), .pointer (some ⟨w.heap.size + 1 + 1, 0, none⟩), .pointer (some ⟨w.heap.size + 1 + 1 + 1, 0, none⟩), .pointer (some ⟨Bx, 0, none⟩), undef, .string s, .func (.func 89) #[] #[.pointer (some ⟨w.heap.size + 1 + 1 + 1 + 1, 0, none⟩)], encP x.1, undef, undef, undef, undef, undef, undef, undef, undef, undef, undef, undef, undef, undef, undef, undef, undef, undef, undef, undef, undef, undef, undef, undef], defers := [] })
    (fun x a' _ X Y row hs hg hr => by
      obtain ⟨Bx, h1, h2⟩ := hs
      refine ⟨Bx, (hg.block Bx (Array.getElem?_eq_some_iff.1 h1).1 (fun e => ?_)).trans h1, h2⟩
      obtain ⟨_, o, ho, hc⟩ := hr Bx e.symm
      rw [h1] at ho; cases ho; cases hc)
    ?assign ?body ?done ?stop
  · exact ⟨hs.1.turn hg hr, hs.2⟩
  · obtain ⟨rfl, o, a1, e1, hb, hp⟩ := hs
    exact ⟨rfl, o, a1, e1, hb.turn hg hr, hp⟩
  case assign =>
    rintro l pre x W K ⟨⟨hb, hp⟩, hB1⟩ hK
    simp only [encP]
    gi_wp2
    exact hK _ _ ((KeepsOthers.alloc _ _).from _) (kp_others (KeepsOthers.alloc _ _) (fun v hv => hv.alloc _)) ⟨⟨hb.alloc _, hp⟩, hB1.alloc hB1.size _⟩ ⟨W.heap.size, World.alloc_heap_new W _, rfl⟩
  case body =>
    rintro l pre x a' W hl hq ⟨⟨hRb, hrest⟩, hB1⟩ ⟨Bx, hX, rfl⟩ hlt
    obtain ⟨pos, k, hpl, hsz, hk1, hk4, hpk, hr0, hr1⟩ := of_place x.2
    have hmap : (pre ++ [x]).map (·.1) = pre.map (·.1) ++ [x.1] := by simp
    obtain ⟨r, hr⟩ : ∃ r, x.1.1 = r := ⟨_, rfl⟩
    obtain ⟨br, hbr⟩ : ∃ br, x.1.2.2.2 = br := ⟨_, rfl⟩
    have hxe : x.1 = (r, (pos : Int), (k : Int), br) := by rw [← hr, ← hpl, ← hsz, ← hbr]
    have hpos : pos < s.size := by omega
    have HS : Hid (∀ rest, bareG s ((pre ++ [x]).map (·.1) ++ rest) = if blB (s[pos].toNat : Int) = true then ((s.extract 0 pos).data.toList, (pos : Int), 0) else if bfF r br = 0 then bareG s rest else ([], (pos : Int), bfF r br)) := by
      intro rest
      rw [hmap, List.append_assoc, hrest, hxe, ← Pc.get_at s pos hpos]
      rfl
    rw [hxe] at hX
    rw [hr] at hr0 hr1
    have hen : encP x.1 = .agg #[.int .i32 r, .int .i64 (pos : Int), .int .i64 (k : Int), .bool br] := by rw [hxe]; rfl
    rw [hen]
    clear hmap hrest hr hbr hpl hsz hxe hen
    have p0 : W.cell? ⟨Bx, 0, none⟩ = some (.int .i32 r) := by simp [World.cell?, hX]
    have p1 : W.cell? ⟨Bx, 1, none⟩ = some (.int .i64 (pos : Int)) := by simp [World.cell?, hX]
    have p2 : W.cell? ⟨Bx, 2, none⟩ = some (.int .i64 (k : Int)) := by simp [World.cell?, hX]
    have p3 : W.cell? ⟨Bx, 3, none⟩ = some (.bool br) := by simp [World.cell?, hX]
    have k0 := hRb.y0.cell
    obtain ⟨ap0, ap1, ap2, ap3⟩ := hRb.apart hX
    have hposI : (pos : Int) < (s.size : Int) := by omega
    have hposN : pos ≤ s.size := by omega
    have hsI : (s.size : Int) ≤ 11000000 := by omega
    have IB := fun c => isBlank_any c W
    cases hbl : blB (s[pos].toNat : Int)
    · have HS2 : Hid (∀ rest, bareG s ((pre ++ [x]).map (·.1) ++ rest) = if bfF r br = 0 then bareG s rest else ([], (pos : Int), bfF r br)) := by
        intro rest
        rw [HS.out, hbl, if_neg (by simp)]
      have BF := bareFault_any r (pos : Int) (k : Int) br hr0 hr1 W R off cap (hS.below hB1 (Nat.le_refl _))
      by_cases hz : bfF r br = 0
      · have HX : Hid (∀ rest, bareG s ((pre ++ [x]).map (·.1) ++ rest) = bareG s rest) := by
          intro rest
          rw [HS2.out, if_pos hz]
        rw [hz] at BF
        gi_wp2_with fail
        refine ⟨trivial, fun _ => by omega, (CallsIn.inRound l (callsIn_wide.2 (IB _))).mono ?_⟩
        rintro e W1 ⟨rfl, hw⟩
        obtain rfl := hw.symm
        gi_wp2_with fail
        refine ⟨trivial, fun _ => by omega, (CallsIn.inRound l (callsIn_wide.2 BF)).mono ?_⟩
        rintro e W1 ⟨rfl, hb⟩
        gi_wp2
        exact ⟨(others_below hb).from _, kp_others (others_below hb) (hRb.kp (hRb.call hb)), ⟨hRb.call hb, HX.out⟩, hB1.trans (hb.mono hB1.size)⟩
      · have HX : Hid (∀ rest, bareG s ((pre ++ [x]).map (·.1) ++ rest) = ([], (pos : Int), bfF r br)) := by
          intro rest
          rw [HS2.out, if_neg hz]
        generalize bfF r br = ec at *
        have bz : (ec != 0) = true := by rw [bne_iff_ne]; exact hz
        gi_wp2_with fail
        refine ⟨trivial, fun _ => by omega, (CallsIn.inRound l (callsIn_wide.2 (IB _))).mono ?_⟩
        rintro e W1 ⟨rfl, hw⟩
        obtain rfl := hw.symm
        gi_wp2_with fail
        refine ⟨trivial, fun _ => by omega, (CallsIn.inRound l (callsIn_wide.2 BF)).mono ?_⟩
        rintro e W1 ⟨rfl, hb⟩
        have jR := hRb.call hb
        have jX : W1.heap[Bx]? = some (.cells (cellsP (r, (pos : Int), (k : Int), br)).toArray 55 (0, 0)) := (hb.block Bx (Array.getElem?_eq_some_iff.1 hX).1).trans hX
        have p1' : W1.cell? ⟨Bx, 1, none⟩ = some (.int .i64 (pos : Int)) := by simp [World.cell?, jX]
        have k1' := jR.y1.cell
        have k2' := jR.y2.cell
        have k3' := jR.y3.cell
        have z1' := jR.y1.frozen
        have z2' := jR.y2.frozen
        have z3' := jR.y3.frozen
        have hB2 : Below w.heap.size w W1 := hB1.trans (hb.mono hB1.size)
        have FR := ((jR.set1 ⟨#[]⟩).set2 (pos : Int)).set3 ec
        have hko : KeepsOthers W (((W1.setCell ⟨w.heap.size + 1, 0, none⟩ (.string ⟨#[]⟩)).setCell ⟨w.heap.size + 1 + 1, 0, none⟩ (.int .i64 (pos : Int))).setCell ⟨w.heap.size + 1 + 1 + 1, 0, none⟩ (.int .i64 ec)) := (((others_below hb).trans (KeepsOthers.setCell _ _ _)).trans (KeepsOthers.setCell _ _ _)).trans (KeepsOthers.setCell _ _ _)
        have hB3' := ((hB2.setCell (p := ⟨w.heap.size + 1, 0, none⟩) (by simp) (.string ⟨#[]⟩)).setCell (p := ⟨w.heap.size + 1 + 1, 0, none⟩) (by simp; omega) (.int .i64 (pos : Int))).setCell (p := ⟨w.heap.size + 1 + 1 + 1, 0, none⟩) (by simp; omega) (.int .i64 ec)
        gi_wp2
        gi_region_o
        all_goals gi_wp2
        all_goals exact ⟨(hko.trans (KeepsOthers.drew _)).from _, ⟨rfl, ⟨#[]⟩, (pos : Int), ec, FR.drew, HX.out⟩, hB3'.drew⟩
    · have HX : Hid (∀ rest, bareG s ((pre ++ [x]).map (·.1) ++ rest) = ((s.extract 0 pos).data.toList, (pos : Int), 0)) := by
        intro rest
        rw [HS.out, hbl, if_pos rfl]
      gi_wp2_with fail
      refine ⟨trivial, fun _ => by omega, (CallsIn.inRound l (callsIn_wide.2 (IB _))).mono ?_⟩
      rintro e W1 ⟨rfl, hw⟩
      obtain rfl := hw.symm
      gi_wp2_with fail
      have hcl : ∀ W', Calls Tryd.prog 64 #[.string (s.extract 0 pos)] W' fun e w' => e = .returned (.string (s.extract 0 pos)) ∧ Below W'.heap.size W' w' := fun W' => clone_any _ W' (by simp [ByteArray.size_extract]; omega)
      generalize s[pos].toNat = by_ at *
      clear HS IB hbl p0 p1 p2 p3 k0 hq hr0 hr1 hk1 hk4 hpk
      refine wpIn_region_any (by assumption) ?_
      change wpAnyIn _ _ _ _ _ _ _ _ _ (World.drew _)
      refine Ord.wpAnyIn_inv (Inv := fun listed a w' => ∃ l0 l1 l2 l3 l4 l5 l6 l7 l8 l9 : Bool, listed = #[l0, l1, l2, l3, l4, l5, l6, l7, l8, l9] ∧
        a = { tmps := #[.string s, .pointer (some ⟨w.heap.size, 0, none⟩), .pointer (some ⟨w.heap.size + 1, 0, none⟩), .pointer (some ⟨w.heap.size + 1 + 1, 0, none⟩), .pointer (some ⟨w.heap.size + 1 + 1 + 1, 0, none⟩), .pointer (some ⟨Bx, 0, none⟩), undef, .string s, .func (.func 89) #[] #[.pointer (some ⟨w.heap.size + 1 + 1 + 1 + 1, 0, none⟩)], .agg #[.int .i32 r, .int .i64 (pos : Int), .int .i64 (k : Int), .bool br],
          .string s, .pointer (some ⟨Bx, 1, none⟩), .int .i64 (pos : Int), .int .u8 (by_ : Int), .bool true,
          sel l0 (.string s), sel l1 (.pointer (some ⟨Bx, 1, none⟩)), sel l2 (.int .i64 (pos : Int)), sel l3 (.string (s.extract 0 pos)), sel l4 (.string (s.extract 0 pos)), sel l5 (.pointer (some ⟨Bx, 1, none⟩)), sel l6 (.int .i64 (pos : Int)), undef, undef, undef, undef, undef, undef, undef, undef, undef, undef, undef], defers := [] } ∧
        (l2 = true → l1 = true) ∧ (l3 = true → l0 = true ∧ l2 = true) ∧ (l4 = true → l3 = true) ∧ (l6 = true → l5 = true) ∧ (l7 = true → l4 = true) ∧ (l8 = true → l7 = true ∧ l6 = true) ∧ (l9 = true → l8 = true) ∧
        Rb w.heap.size s (if l7 = true then s.extract 0 pos else ⟨#[]⟩) (if l8 = true then (pos : Int) else 0) 0 w' ∧ w'.heap[Bx]? = some (.cells (cellsP (r, (pos : Int), (k : Int), br)).toArray 55 (0, 0)) ∧ KeepsOthers W w' ∧ Below w.heap.size w w') ?step ?fin _ _ _ _ ?start ?count
      case start => exact ⟨false, false, false, false, false, false, false, false, false, false, rfl, rfl, by simp, by simp, by simp, by simp, by simp, by simp, by simp, hRb.drew, hX, KeepsOthers.drew _, hB1.drew⟩
      case count => decide
      case step =>
        rintro listed a w' i ⟨l0, l1, l2, l3, l4, l5, l6, l7, l8, l9, rfl, rfl, c2, c3, c4, c6, c7, c8, c9, hR', hX', hko, hB'⟩ hi
        obtain ⟨hlt', hb⟩ := Ord.mem_ready hi
        have q1 : w'.cell? ⟨Bx, 1, none⟩ = some (.int .i64 (pos : Int)) := by simp [World.cell?, hX']
        have k0 := hR'.y0.cell
        rcases lt_cases10 hlt' with rfl | rfl | rfl | rfl | rfl | rfl | rfl | rfl | rfl | rfl
        all_goals simp [Region.binds] at hb
        · obtain rfl := hb
          refine wpOpIn_step rfl (fun K hK => ?_)
          simp only [sel_f]
          go_simp
          refine hK _ _ ?_
          exact ⟨true, _, _, _, _, _, _, _, _, _, rfl, rfl, by simp_all, by simp_all, by simp_all, by simp_all, by simp_all, by simp_all, by simp_all, hR', hX', hko, hB'⟩
        · obtain rfl := hb
          refine wpOpIn_step rfl (fun K hK => ?_)
          simp only [sel_f]
          go_simp
          refine hK _ _ ?_
          exact ⟨_, true, _, _, _, _, _, _, _, _, rfl, rfl, by simp_all, by simp_all, by simp_all, by simp_all, by simp_all, by simp_all, by simp_all, hR', hX', hko, hB'⟩
        · obtain ⟨rfl, rfl⟩ := hb
          refine wpOpIn_step rfl (fun K hK => ?_)
          simp only [sel_t, sel_f]
          go_simp
          refine hK _ _ ?_
          exact ⟨_, true, true, _, _, _, _, _, _, _, rfl, rfl, by simp_all, by simp_all, by simp_all, by simp_all, by simp_all, by simp_all, by simp_all, hR', hX', hko, hB'⟩
        · obtain ⟨rfl, rfl, rfl⟩ := hb
          obtain rfl := c2 rfl
          refine wpOpIn_step rfl (fun K hK => ?_)
          simp only [sel_t, sel_f]
          go_simp
          refine hK _ _ ?_
          exact ⟨true, true, true, true, _, _, _, _, _, _, rfl, rfl, by simp_all, by simp_all, by simp_all, by simp_all, by simp_all, by simp_all, by simp_all, hR', hX', hko, hB'⟩
        · obtain ⟨rfl, rfl⟩ := hb
          obtain ⟨rfl, rfl⟩ := c3 rfl
          obtain rfl := c2 rfl
          obtain rfl : l7 = false := by cases l7 <;> simp_all
          obtain rfl : l8 = false := by cases l8 <;> simp_all
          refine wpOpIn_step rfl (fun K hK => ?_)
          simp only [sel_t, sel_f]
          go_simp
          refine ⟨trivial, fun _ => by omega, (CallsIn.inRound l (callsIn_wide.2 (hcl w'))).mono ?_⟩
          rintro e W1 ⟨rfl, hb'⟩
          refine hK _ _ ?_
          exact ⟨true, true, true, true, true, _, _, false, false, _, rfl, rfl, by simp_all, by simp_all, by simp_all, by simp_all, by simp_all, by simp_all, by simp_all, hR'.call hb', (hb'.block Bx (Array.getElem?_eq_some_iff.1 hX').1).trans hX', hko.trans (others_below hb'), hB'.trans (hb'.mono hB'.size)⟩
        · obtain rfl := hb
          refine wpOpIn_step rfl (fun K hK => ?_)
          simp only [sel_f]
          go_simp
          refine hK _ _ ?_
          exact ⟨_, _, _, _, _, true, _, _, _, _, rfl, rfl, by simp_all, by simp_all, by simp_all, by simp_all, by simp_all, by simp_all, by simp_all, hR', hX', hko, hB'⟩
        · obtain ⟨rfl, rfl⟩ := hb
          refine wpOpIn_step rfl (fun K hK => ?_)
          simp only [sel_t, sel_f]
          go_simp
          refine hK _ _ ?_
          exact ⟨_, _, _, _, _, true, true, _, _, _, rfl, rfl, by simp_all, by simp_all, by simp_all, by simp_all, by simp_all, by simp_all, by simp_all, hR', hX', hko, hB'⟩
        · have ha : l0 = true ∧ l1 = true ∧ l2 = true ∧ l3 = true ∧ l4 = true ∧ l7 = false ∧ l8 = false := by cases l8 <;> simp_all
          obtain ⟨rfl, rfl, rfl, rfl, rfl, rfl, rfl⟩ := ha
          clear hb c2 c3 c4 c7
          have k1 := hR'.y1.cell
          have z1 := hR'.y1.frozen
          refine wpOpIn_step rfl (fun K hK => ?_)
          simp only [sel_t]
          go_simp
          refine hK _ _ ?_
          exact ⟨true, true, true, true, true, _, _, true, false, _, rfl, rfl, by simp_all, by simp_all, by simp_all, by simp_all, by simp_all, by simp_all, by simp_all, hR'.set1 _, (Below.heap_setCell _ _ _ _ ap1).trans hX', hko.trans (KeepsOthers.setCell _ _ _), hB'.setCell (p := ⟨w.heap.size + 1, 0, none⟩) (by simp) _⟩
        · have ha : l0 = true ∧ l1 = true ∧ l2 = true ∧ l3 = true ∧ l4 = true ∧ l5 = true ∧ l6 = true ∧ l7 = true ∧ l8 = false := by simp_all
          obtain ⟨rfl, rfl, rfl, rfl, rfl, rfl, rfl, rfl, rfl⟩ := ha
          clear hb c2 c3 c4 c6 c7 c8
          have k2 := hR'.y2.cell
          have z2 := hR'.y2.frozen
          refine wpOpIn_step rfl (fun K hK => ?_)
          simp only [sel_t]
          go_simp
          refine hK _ _ ?_
          exact ⟨true, true, true, true, true, true, true, true, true, _, rfl, rfl, by simp_all, by simp_all, by simp_all, by simp_all, by simp_all, by simp_all, by simp_all, hR'.set2 _, (Below.heap_setCell _ _ _ _ ap2).trans hX', hko.trans (KeepsOthers.setCell _ _ _), hB'.setCell (p := ⟨w.heap.size + 1 + 1, 0, none⟩) (by simp; omega) _⟩
        · have ha : l0 = true ∧ l1 = true ∧ l2 = true ∧ l3 = true ∧ l4 = true ∧ l5 = true ∧ l6 = true ∧ l7 = true ∧ l8 = true ∧ l9 = false := by simp_all
          obtain ⟨rfl, rfl, rfl, rfl, rfl, rfl, rfl, rfl, rfl, rfl⟩ := ha
          clear hb c2 c3 c4 c6 c7 c8 c9
          have k3 := hR'.y3.cell
          have z3 := hR'.y3.frozen
          refine wpOpIn_step rfl (fun K hK => ?_)
          go_simp
          refine hK _ _ ?_
          exact ⟨true, true, true, true, true, true, true, true, true, true, rfl, rfl, by simp_all, by simp_all, by simp_all, by simp_all, by simp_all, by simp_all, by simp_all, hR'.set3 _, (Below.heap_setCell _ _ _ _ ap3).trans hX', hko.trans (KeepsOthers.setCell _ _ _), hB'.setCell (p := ⟨w.heap.size + 1 + 1 + 1, 0, none⟩) (by simp; omega) _⟩
      case fin =>
        rintro listed a w' ⟨l0, l1, l2, l3, l4, l5, l6, l7, l8, l9, rfl, rfl, c2, c3, c4, c6, c7, c8, c9, hR', hX', hko, hB'⟩ hi
        have hall : l0 = true ∧ l1 = true ∧ l2 = true ∧ l3 = true ∧ l4 = true ∧ l5 = true ∧ l6 = true ∧ l7 = true ∧ l8 = true ∧ l9 = true := by
          have hx := fun i => Ord.not_ready hi (i := i)
          have e0 := hx 0 (by simp)
          have e1 := hx 1 (by simp)
          have e2 := hx 2 (by simp)
          have e3 := hx 3 (by simp)
          have e4 := hx 4 (by simp)
          have e5 := hx 5 (by simp)
          have e6 := hx 6 (by simp)
          have e7 := hx 7 (by simp)
          have e8 := hx 8 (by simp)
          have e9 := hx 9 (by simp)
          simp [Region.binds] at e0 e1 e2 e3 e4 e5 e6 e7 e8 e9
          simp_all
        obtain ⟨rfl, rfl, rfl, rfl, rfl, rfl, rfl, rfl, rfl, rfl⟩ := hall
        rw [if_pos rfl, if_pos rfl] at hR'
        clear c2 c3 c4 c6 c7 c8 c9 hi
        simp only [sel_t]
        gi_wp2
        exact ⟨hko.from _, ⟨rfl, _, (pos : Int), 0, hR', HX.out⟩, hB'⟩
  case done =>
    rintro D ys W hD hys ⟨⟨hRb, hrest⟩, hB1⟩ hK
    have hres : bareG s (pieces s) = (s.data.toList, (s.size : Int), 0) := by
      have := hrest []
      have hys' : ys.map (·.1) = pieces s := hys
      rw [List.append_nil, hys'] at this
      rw [this]
      rfl
    have HR := hide hres
    clear hres hrest
    have CL := clone_any s W.drew (by omega)
    have k0 := hRb.y0.cell
    have k1 := hRb.y1.cell
    have k2 := hRb.y2.cell
    have k3 := hRb.y3.cell
    have z1 := hRb.y1.frozen
    have z2 := hRb.y2.frozen
    have z3 := hRb.y3.frozen
    gi_wp2_with fail
    gi_region_with_o (refine ⟨trivial, (callsIn_wide.2 CL).mono ?_⟩; rintro e W1 ⟨rfl, hb⟩; have jR := hRb.drew.call hb; have k0' := jR.y0.cell; have k1' := jR.y1.cell; have k2' := jR.y2.cell; have k3' := jR.y3.cell; have z1' := jR.y1.frozen; have z2' := jR.y2.frozen; have z3' := jR.y3.frozen)
    all_goals gi_wp2
    all_goals
      have FR := ((jR.set1 s).set2 (s.size : Int)).set3 0
      have hK2 := (((((KeepsOthers.drew W).trans (others_below hb)).trans (KeepsOthers.setCell W1 ⟨w.heap.size + 1, 0, none⟩ (.string s))).trans (KeepsOthers.setCell _ ⟨w.heap.size + 1 + 1, 0, none⟩ (.int .i64 (s.size : Int)))).trans (KeepsOthers.setCell _ ⟨w.heap.size + 1 + 1 + 1, 0, none⟩ (.int .i64 0))).same D _ hK rfl
      have hB2 := (((hB1.drew.trans (hb.mono hB1.size)).setCell (p := ⟨w.heap.size + 1, 0, none⟩) (by simp) (.string s)).setCell (p := ⟨w.heap.size + 1 + 1, 0, none⟩) (by simp; omega) (.int .i64 (s.size : Int))).setCell (p := ⟨w.heap.size + 1 + 1 + 1, 0, none⟩) (by simp; omega) (.int .i64 0)
      have f1 := (FR.y1.kept (grownBy_putObj' _ D (.deferred none)) (fun e => by cases e; omega)).cell
      have f2 := (FR.y2.kept (grownBy_putObj' _ D (.deferred none)) (fun e => by cases e; omega)).cell
      have f3 := (FR.y3.kept (grownBy_putObj' _ D (.deferred none)) (fun e => by cases e; omega)).cell
      refine ⟨by simp, .inl ⟨_, _, rfl, run_takeDeferred hK2, ?_⟩⟩
      refine ⟨.tuple #[.string s, .int .i64 (s.size : Int), .int .i64 0], ?_, by rw [HR.out, Uq.ba], hB2.trans (belowK_b (w := w) (Nat.le_refl _) _ D _ _ (by omega) hK2 rfl rfl)⟩
      simp [results, Tryd.results97, go_sem, f1, f2, f3]
  case stop =>
    rintro D c pre W hD hpre ⟨⟨rfl, o, a1, e1, hRb, hrest⟩, hB1⟩ hK
    obtain ⟨rest, hpp⟩ := hpre
    have hres : bareG s (pieces s) = (o.data.toList, a1, e1) := by rw [← hpp]; exact hrest rest
    have HR := hide hres
    clear hrest hres
    gi_wp2
    have f1 := (hRb.y1.kept (grownBy_putObj' _ D (.deferred none)) (fun e => by cases e; omega)).cell
    have f2 := (hRb.y2.kept (grownBy_putObj' _ D (.deferred none)) (fun e => by cases e; omega)).cell
    have f3 := (hRb.y3.kept (grownBy_putObj' _ D (.deferred none)) (fun e => by cases e; omega)).cell
    refine ⟨by simp, .inl ⟨_, _, rfl, run_takeDeferred hK, ?_⟩⟩
    refine ⟨.tuple #[.string o, .int .i64 a1, .int .i64 e1], ?_, by rw [HR.out, Uq.ba], hB1.trans (belowK_b (w := w) (Nat.le_refl _) W D _ _ (by omega) hK rfl rfl)⟩
    simp [results, Tryd.results97, go_sem, f1, f2, f3]

/-- what readBare answers -/
theorem readBare_any (s : ByteArray) (hs : s.size ≤ 11000000) (w : World) (R off cap : Nat) (hS : Spans w R off cap) :
    Calls Tryd.prog 97 #[.string s] w fun e W' => e = .returned (.tuple #[.string ⟨(bareG s (pieces s)).1.toArray⟩, .int .i64 (bareG s (pieces s)).2.1, .int .i64 (bareG s (pieces s)).2.2]) ∧ Below w.heap.size w W' :=
  (callsIn_wide (n := 4)).1 (readBare_in 4 (by omega) s hs w R off cap hS)
end Go.Proofs.YtckjededijgjgaaDoor.Bw
namespace Go.Proofs.YtckjededijgjgaaDoor.Bw
open Go.RowKit
open Go.Proofs.YtckjededijgjgaaDoor.Pc (P4 pieces pcF)
open Go.Proofs.YtckjededijgjgaaDoor.Ur (Lp lp_of atL atL_in atL_out at_any at_bg)
open Go.Proofs.YtckjededijgjgaaDoor.Wd (Bg bg_step bg_end bg_zero)
open Go.Proofs.YtckjededijgjgaaDoor.Enc (Spans plainF hidB hidden_any)
set_option linter.unusedVariables false

set_option maxHeartbeats 400000 in
theorem blank_any {w : World} {ad : Option Addr} {l : List P4} (cap : Nat) (hL : Lp w ad l) (hl : l.length ≤ 11000000) (i : Nat) :
    Calls Tryd.prog 79 #[.slice ad l.length cap, .int .i64 (i : Int)] w fun e w' => e = .returned (.bool (blB (atL l i))) ∧ w' = w := by
  have A := at_any cap hL hl i
  generalize atL l i = c at *
  clear hL
  generalize l.length = N at *
  unfold blB
  by_cases h : c = 32
  · subst h
    go_enter Tryd.func79, Tryd.ntmps79
    go_wp2_with fail
    refine A.mono ?_; rintro e w2 ⟨rfl, hw⟩; obtain rfl := hw.symm
    go_wp2
    go_ret
    exact ⟨rfl, rfl⟩
  · have b : (c == 32) = false := beq_eq_false_iff_ne.2 h
    rw [b, Bool.false_or]
    go_enter Tryd.func79, Tryd.ntmps79
    go_wp2_with fail
    refine A.mono ?_; rintro e w2 ⟨rfl, hw⟩; obtain rfl := hw.symm
    go_wp2
    go_ret
    exact ⟨rfl, rfl⟩

theorem bl_no {c : Int} (h : c = -1 ∨ 128 ≤ c) : blB c = false := by
  unfold blB
  rw [beq_eq_false_iff_ne.2 (by omega), beq_eq_false_iff_ne.2 (by omega)]; rfl
theorem bl_at {s : ByteArray} {k pos : Nat} (h : Bg s k pos) (hp : pos < s.size) : blB (atL (pieces s) k) = blB ((s.get! pos).toNat : Int) := by
  rcases at_bg h with ⟨_, _, e, _⟩ | ⟨e, h2⟩
  · rw [e]
  · rw [bl_no e, bl_no (by omega)]
/-- what is read at a piece -/
theorem bare_at {s : ByteArray} {k pos : Nat} (h : Bg s k pos) (hk : k < (pieces s).length) : ∃ (r : Int) (z : Nat) (br : Bool), (pieces s)[k] = (r, (pos : Int), (z : Int), br) ∧ Bg s (k + 1) (pos + z) ∧ pos < s.size ∧
    bareG s ((pieces s).drop k) = if blB (atL (pieces s) k) = true then ((s.extract 0 pos).data.toList, (pos : Int), 0) else if bfF r br = 0 then bareG s ((pieces s).drop (k + 1)) else ([], (pos : Int), bfF r br) := by
  obtain ⟨hp, hpc, hw, hn⟩ := bg_step h hk
  have hend := Wd.pcF_end s pos
  refine ⟨(pcF s pos).1, (Utf8.decode s pos).2, (pcF s pos).2.2.2, ?_, hn, hp, ?_⟩
  · rw [hpc]
    obtain ⟨e1, e2⟩ := hend
    rw [← e1, ← e2]
  · rw [List.drop_eq_getElem_cons hk, bareG, hpc, hend.1, bl_at h hp]
    rfl
theorem bare_end {s : ByteArray} {k : Nat} (hk : (pieces s).length ≤ k) : bareG s ((pieces s).drop k) = (s.data.toList, (s.size : Int), 0) := by
  rw [List.drop_of_length_le hk, bareG]

/-- what bareEnd answers, of what is read -/
def BR (s : ByteArray) (R : List UInt8 × Int × Int) (e : Ending) : Prop :=
  (R.2.2 = 0 ∧ ∃ K q : Nat, K ≤ (pieces s).length ∧ R.2.1 = (q : Int) ∧ Bg s K q ∧ e = .returned (.tuple #[.int .i64 (K : Int), .int .i64 0, .int .i64 0])) ∨
  (R.2.2 ≠ 0 ∧ e = .returned (.tuple #[.int .i64 0, .int .i64 R.2.1, .int .i64 R.2.2]))

set_option maxRecDepth 100000 in
set_option maxHeartbeats 1600000 in
theorem bareEnd_any (s : ByteArray) (hs : s.size ≤ 11000000) {w : World} {ad : Option Addr} (cap : Nat) (hL : Lp w ad (pieces s)) (i p : Nat) (hb : Bg s i p) (hi : i ≤ (pieces s).length) :
    Calls Tryd.prog 80 #[.slice ad (pieces s).length cap, .int .i64 (i : Int)] w fun e w' => BR s (bareG s ((pieces s).drop i)) e ∧ Below w.heap.size w w' := by
  have hpl := Wd.pieces_len s
  have hl : (pieces s).length ≤ 11000000 := by omega
  have RA := fun (k pos : Nat) (h : Bg s k pos) (hk : k < (pieces s).length) => bare_at h hk
  have RE := fun (k : Nat) (hk : (pieces s).length ≤ k) => bare_end hk
  have RZ := fun (k pos : Nat) (h : Bg s k pos) (hk : (pieces s).length ≤ k) => bg_end h hk
  have BL := fun (k : Nat) => blank_any cap hL hl k
  have HC : Hid (∀ k (hk : k < (pieces s).length), ∃ g, ad = some ⟨g, 0, none⟩ ∧ g < w.heap.size ∧ w.cell? ⟨g, k * 4, none⟩ = some (.int .i64 (pieces s)[k].1) ∧ w.cell? ⟨g, k * 4 + 1, none⟩ = some (.int .i64 (pieces s)[k].2.1) ∧ w.cell? ⟨g, k * 4 + 2, none⟩ = some (.int .i64 (pieces s)[k].2.2.1) ∧ w.cell? ⟨g, k * 4 + 3, none⟩ = some (.bool (pieces s)[k].2.2.2)) := fun k hk => hL k hk
  have HR0 : Hid (∃ pos, Bg s i pos ∧ bareG s ((pieces s).drop i) = bareG s ((pieces s).drop i)) := ⟨p, hb, rfl⟩
  have HRA := hide RA
  have HRE := hide RE
  have HRZ := hide RZ
  have HBL := hide BL
  clear RA RE RZ BL hb hL
  generalize hRR : bareG s ((pieces s).drop i) = R at *
  have HR1 : Hid (∃ pos, Bg s i pos ∧ R = bareG s ((pieces s).drop i)) := by
    obtain ⟨pos, h1, _⟩ := HR0.out
    exact ⟨pos, h1, hRR.symm⟩
  clear hRR HR0
  obtain ⟨N, hN⟩ : ∃ N, (pieces s).length = N := ⟨_, rfl⟩
  have HN := hide hN
  rw [hN] at hpl hl hi ⊢
  clear hN
  have hiI : (i : Int) ≤ 11000000 := by omega
  go_enter Tryd.func80, Tryd.ntmps80
  go_wp2_with fail
  go_loop [1] (fun kv => ∃ (k : Nat), kv = .int .i64 (k : Int) ∧ k ≤ N ∧ Hid (∃ pos, Bg s k pos ∧ R = bareG s ((pieces s).drop k))) (fun kv => N - (intOf kv).toNat)
  case atStart => exact ⟨i, rfl, hi, HR1⟩
  case round =>
    obtain ⟨k, rfl, hk, HI⟩ := hrel
    by_cases hlt : k < N
    · have hkP : k < (pieces s).length := by rw [HN.out]; exact hlt
      obtain ⟨g, rfl, hg, c0, c1, c2, c3⟩ := HC.out k hkP
      obtain ⟨pos, hBg, hR⟩ := HI.out
      obtain ⟨r, z, br, hx, hBn, hpos, hrq⟩ := HRA.out k pos hBg hkP
      have hB := HBL.out k
      rw [hx] at c0 c1 c2 c3
      rw [HN.out] at hB
      simp only at c0 c1 c2 c3
      have hltI : (k : Int) < (N : Int) := by omega
      have hposI : (pos : Int) ≤ 11000000 := by omega
      have H := hidden_any r w
      have HR := hide (hR.trans hrq)
      clear hR hrq HI HC HRA HRE HRZ HBL HR1 hx c2
      cases hbl : blB (atL (pieces s) k)
      · rw [hbl] at hB
        have HR2 : Hid (R = if bfF r br = 0 then bareG s ((pieces s).drop (k + 1)) else ([], (pos : Int), bfF r br)) := by
          have e := HR.out
          rw [hbl, if_neg (by simp)] at e
          exact e
        clear HR hbl
        cases br
        · have hpf : plainF r = !hidB r := rfl
          by_cases q1 : hidB r = true ∨ r = 34 ∨ r = 92
          · have HE : Hid (BR s R (.returned (.tuple #[.int .i64 0, .int .i64 (pos : Int), .int .i64 14]))) := by
              have hb14 : bfF r false = 14 := by
                unfold bfF
                rw [if_neg (by simp), hpf]
                rcases q1 with q | q | q
                · rw [q]; simp
                · rw [if_pos q]
                · rw [if_pos q]; simp
              have e := HR2.out
              rw [hb14, if_neg (by decide)] at e
              rw [e]
              exact .inr ⟨by show (14 : Int) ≠ 0; decide, rfl⟩
            clear HR2 hpf
            cases hh : hidB r
            · rw [hh] at H
              rw [hh] at q1
              clear hh
              by_cases q2 : r = 34
              · have b1 : (r == 34) = true := by rw [q2]; rfl
                clear q1 q2
                go_wp2_with fail
                refine hB.mono ?_; rintro e w2 ⟨rfl, hw⟩; obtain rfl := hw.symm
                go_wp2_with fail
                refine H.mono ?_; rintro e w2 ⟨rfl, hw⟩; obtain rfl := hw.symm
                go_wp2
                go_region
                all_goals go_wp2
                all_goals exact bodyPost_ret (v := .tuple #[.int .i64 0, .int .i64 (pos : Int), .int .i64 14]) (by simp [results, Tryd.results80, go_sem]) rfl ⟨HE.out, (Below.refl _ _).drew⟩
              · have b1 : (r == 34) = false := beq_eq_false_iff_ne.2 q2
                have b2 : (r == 92) = true := by
                  rcases q1 with q | q | q
                  · cases q
                  · exact absurd q q2
                  · rw [q]; rfl
                clear q1 q2
                go_wp2_with fail
                refine hB.mono ?_; rintro e w2 ⟨rfl, hw⟩; obtain rfl := hw.symm
                go_wp2_with fail
                refine H.mono ?_; rintro e w2 ⟨rfl, hw⟩; obtain rfl := hw.symm
                go_wp2
                go_region
                all_goals go_wp2
                all_goals exact bodyPost_ret (v := .tuple #[.int .i64 0, .int .i64 (pos : Int), .int .i64 14]) (by simp [results, Tryd.results80, go_sem]) rfl ⟨HE.out, (Below.refl _ _).drew⟩
            · rw [hh] at H
              clear q1 hh
              go_wp2_with fail
              refine hB.mono ?_; rintro e w2 ⟨rfl, hw⟩; obtain rfl := hw.symm
              go_wp2_with fail
              refine H.mono ?_; rintro e w2 ⟨rfl, hw⟩; obtain rfl := hw.symm
              go_wp2
              go_region
              all_goals go_wp2
              all_goals exact bodyPost_ret (v := .tuple #[.int .i64 0, .int .i64 (pos : Int), .int .i64 14]) (by simp [results, Tryd.results80, go_sem]) rfl ⟨HE.out, (Below.refl _ _).drew⟩
          · have hh : hidB r = false := by
              rw [Bool.eq_false_iff]; exact fun h => q1 (.inl h)
            have n1 : r ≠ 34 := fun h => q1 (.inr (.inl h))
            have n2 : r ≠ 92 := fun h => q1 (.inr (.inr h))
            have b1 : (r == 34) = false := beq_eq_false_iff_ne.2 n1
            have b2 : (r == 92) = false := beq_eq_false_iff_ne.2 n2
            have HI2 : Hid (∃ pos, Bg s (k + 1) pos ∧ R = bareG s ((pieces s).drop (k + 1))) := by
              have hb0 : bfF r false = 0 := by
                unfold bfF
                rw [if_neg (by simp), if_neg n1, if_neg n2, hpf, hh]; rfl
              have e := HR2.out
              rw [hb0, if_pos rfl] at e
              exact ⟨pos + z, hBn, e⟩
            rw [hh] at H
            clear HR2 hpf q1 hh n1 n2 hBn
            go_wp2_with fail
            refine hB.mono ?_; rintro e w2 ⟨rfl, hw⟩; obtain rfl := hw.symm
            go_wp2_with fail
            refine H.mono ?_; rintro e w2 ⟨rfl, hw⟩; obtain rfl := hw.symm
            go_wp2
            exact ⟨⟨k + 1, by go_num, by omega, HI2⟩, by simp [intOf]; omega⟩
        · have HE : Hid (BR s R (.returned (.tuple #[.int .i64 0, .int .i64 (pos : Int), .int .i64 13]))) := by
            have e := HR2.out
            rw [show bfF r true = 13 from rfl, if_neg (by decide)] at e
            rw [e]
            exact .inr ⟨by show (13 : Int) ≠ 0; decide, rfl⟩
          clear HR2
          go_wp2_with fail
          refine hB.mono ?_; rintro e w2 ⟨rfl, hw⟩; obtain rfl := hw.symm
          go_wp2
          go_region
          all_goals go_wp2
          all_goals exact bodyPost_ret (v := .tuple #[.int .i64 0, .int .i64 (pos : Int), .int .i64 13]) (by simp [results, Tryd.results80, go_sem]) rfl ⟨HE.out, (Below.refl _ _).drew⟩
      · rw [hbl] at hB
        have HE : Hid (BR s R (.returned (.tuple #[.int .i64 (k : Int), .int .i64 0, .int .i64 0]))) := by
          have e := HR.out
          rw [hbl, if_pos rfl] at e
          rw [e]
          exact .inl ⟨rfl, k, pos, by rw [HN.out]; omega, rfl, hBg, rfl⟩
        clear HR hbl
        go_wp2_with fail
        refine hB.mono ?_; rintro e w2 ⟨rfl, hw⟩; obtain rfl := hw.symm
        go_wp2
        go_ret3
        exact ⟨HE.out, Below.refl _ _⟩
    · have HE : Hid (BR s R (.returned (.tuple #[.int .i64 (k : Int), .int .i64 0, .int .i64 0]))) := by
        obtain ⟨pos, hBg, hR⟩ := HI.out
        have hkl : (pieces s).length ≤ k := by rw [HN.out]; omega
        rw [HRE.out k hkl] at hR
        have hq := HRZ.out k pos hBg hkl
        subst hq
        rw [hR]
        exact .inl ⟨rfl, k, s.size, by rw [HN.out]; exact hk, rfl, hBg, rfl⟩
      have hge : ¬ (k : Int) < (N : Int) := by omega
      clear HI HC HRA HRE HRZ HBL HR1
      go_wp2
      go_ret3
      exact ⟨HE.out, Below.refl _ _⟩
end Go.Proofs.YtckjededijgjgaaDoor.Bw
namespace Go.Proofs.YtckjededijgjgaaDoor.Bw
open Go.RowKit
open Go.Proofs.YtckjededijgjgaaDoor.Pc (P4 pieces pcF)
open Go.Proofs.YtckjededijgjgaaDoor.Ur (Lp lp_of atL atL_in atL_out at_any at_bg)
open Go.Proofs.YtckjededijgjgaaDoor.Wd (Bg bg_step bg_end bg_zero)
open Go.Proofs.YtckjededijgjgaaDoor.Enc (Spans)
set_option linter.unusedVariables false

/-- could it stand as a bare word? -/
def bareOk (s : ByteArray) : Bool :=
  if s.size = 0 then false else if s.get! 0 = 35 then false else ((bareG s (pieces s)).2.2 == 0 && (bareG s (pieces s)).2.1 == (s.size : Int))

theorem empty_t {s : ByteArray} (h : s.size = 0) : (s.toList == []) = true := by
  rw [beq_iff_eq, ByteArray.toList_eq]
  have : s.data.toList.length = 0 := by rw [Array.length_toList]; exact h
  exact List.eq_nil_of_length_eq_zero this
theorem empty_f {s : ByteArray} (h : s.size ≠ 0) : (s.toList == []) = false := by
  rw [beq_eq_false_iff_ne]; intro e; rw [ByteArray.toList_eq] at e
  have := congrArg List.length e
  rw [Array.length_toList] at this; exact h (by simpa using this)
theorem hash_iff {s : ByteArray} (h : 0 < s.size) : s.get! 0 = 35 ↔ (s[0].toNat : Int) = 35 := by
  rw [Pc.get_at s 0 h]
  constructor
  · intro e; rw [e]; rfl
  · intro e; exact UInt8.toNat_inj.1 (by simpa using (by omega : s[0].toNat = 35))

set_option maxRecDepth 100000 in
set_option maxHeartbeats 1000000 in
theorem isBare_any (s : ByteArray) (hs : s.size ≤ 11000000) (w : World) (R off cap : Nat) (hS : Spans w R off cap) :
    Calls Tryd.prog 60 #[.string s] w fun e W' => e = .returned (.bool (bareOk s)) ∧ Below w.heap.size w W' := by
  have RB := readBare_any s hs w R off cap hS
  unfold bareOk
  by_cases h0 : s.size = 0
  · rw [if_pos h0]
    have b0 := empty_t h0
    clear RB
    go_enter Tryd.func60, Tryd.ntmps60
    go_wp2
    go_ret
    exact ⟨rfl, Below.refl _ _⟩
  rw [if_neg h0]
  have b0 := empty_f h0
  have hz : 0 < s.size := by omega
  have hzI : (0 : Int) < (s.size : Int) := by omega
  by_cases h1 : s.get! 0 = 35
  · rw [if_pos h1]
    have b1 : ((s[0].toNat : Int) == 35) = true := by rw [(hash_iff hz).1 h1]; rfl
    clear RB h1
    go_enter Tryd.func60, Tryd.ntmps60
    go_wp2
    go_ret
    exact ⟨rfl, Below.refl _ _⟩
  rw [if_neg h1]
  have b1 : ((s[0].toNat : Int) == 35) = false := beq_eq_false_iff_ne.2 (fun e => h1 ((hash_iff hz).2 e))
  clear h1
  generalize bareG s (pieces s) = q at *
  obtain ⟨v, e0, er⟩ := q
  simp only at RB ⊢
  by_cases h2 : er = 0
  · have b2 : (er == 0) = true := by rw [h2]; rfl
    rw [b2, Bool.true_and]
    clear h2
    go_enter Tryd.func60, Tryd.ntmps60
    go_wp2_with fail
    refine RB.mono ?_; rintro e w1 ⟨rfl, hb1⟩
    go_wp2
    go_ret
    exact ⟨rfl, hb1⟩
  · have b2 : (er == 0) = false := beq_eq_false_iff_ne.2 h2
    rw [b2, Bool.false_and]
    clear h2
    go_enter Tryd.func60, Tryd.ntmps60
    go_wp2_with fail
    refine RB.mono ?_; rintro e w1 ⟨rfl, hb1⟩
    go_wp2
    go_ret
    exact ⟨rfl, hb1⟩

theorem bg_len {s : ByteArray} {K q : Nat} (h : Bg s K q) (hK : K ≤ (pieces s).length) : K = (pieces s).length ↔ q = s.size := by
  constructor
  · intro e; exact bg_end h (by omega)
  · intro e
    rcases Nat.lt_or_ge K (pieces s).length with h' | h'
    · have := (bg_step h h').1; omega
    · omega

set_option maxRecDepth 100000 in
set_option maxHeartbeats 1000000 in
theorem refBare_any (s : ByteArray) (hs : s.size ≤ 11000000) (w : World) :
    Calls Tryd.prog 63 #[.string s] w fun e W' => e = .returned (.bool (bareOk s)) ∧ Below w.heap.size w W' := by
  have RP := Rp.refPieces_big s hs w
  have hpl := Wd.pieces_len s
  unfold bareOk
  by_cases h0 : s.size = 0
  · rw [if_pos h0]
    have b0 : ((s.size : Int) == 0) = true := by rw [h0]; rfl
    clear RP hpl
    go_enter Tryd.func63, Tryd.ntmps63
    go_wp2
    go_ret
    exact ⟨rfl, Below.refl _ _⟩
  rw [if_neg h0]
  have b0 : ((s.size : Int) == 0) = false := by rw [beq_eq_false_iff_ne]; omega
  have hz : 0 < s.size := by omega
  have hzI : (0 : Int) < (s.size : Int) := by omega
  have hh := hash_iff hz
  have BE := fun (W : World) (ad : Option Addr) (cap : Nat) (hL : Lp W ad (pieces s)) => bareEnd_any s hs cap hL 0 0 (bg_zero s) (Nat.zero_le _)
  rw [List.drop_zero] at BE
  have BLn := fun (K q : Nat) (h : Bg s K q) hK => bg_len h hK
  have HBE := hide BE
  have HBL := hide BLn
  clear BE BLn
  generalize bareG s (pieces s) = q at *
  obtain ⟨v, e0, er⟩ := q
  simp only at HBE ⊢
  obtain ⟨F, hF⟩ : ∃ F, (if s.get! 0 = 35 then false else (er == 0 && e0 == (s.size : Int))) = F := ⟨_, rfl⟩
  rw [hF]
  have HF := hide hF
  clear hF
  go_enter Tryd.func63, Tryd.ntmps63
  go_wp2_with fail
  refine RP.mono ?_; rintro e w1 ⟨v', rfl, hrow, hb1⟩
  obtain ⟨ad, cap, rfl, hL⟩ := lp_of hrow
  have B0 : Calls Tryd.prog 80 #[.slice ad (pieces s).length cap, .int .i64 0] w1 fun e w' => BR s (v, e0, er) e ∧ Below w1.heap.size w1 w' := HBE.out w1 ad cap hL
  clear RP hrow HBE hL
  obtain ⟨N, hN⟩ : ∃ N, (pieces s).length = N := ⟨_, rfl⟩
  have HN := hide hN
  rw [hN] at B0 ⊢
  clear hN hpl
  go_wp2_with fail
  refine B0.mono ?_; rintro e w2 ⟨hbr, hb2⟩
  have hb12 := hb1.trans (hb2.mono hb1.size)
  rcases hbr with ⟨h0', K, q, hK, hpl2, hBg, rfl⟩ | ⟨h0', rfl⟩
  · have er0 : er = 0 := h0'
    have ep : e0 = (q : Int) := hpl2
    have hkn := HBL.out K q hBg hK
    rw [HN.out] at hkn
    subst er0 ep
    by_cases hlt : K = N
    · have bK : ((K : Int) == (N : Int)) = true := by rw [hlt]; simp
      by_cases h1 : s.get! 0 = 35
      · have b1 : ((s[0].toNat : Int) != 35) = false := by rw [hh.1 h1]; rfl
        have HE : Hid (F = false) := by show _ = _; rw [← HF.out, if_pos h1]
        clear HF HBL HN B0 hBg h0' hpl2 hkn hlt h1 hh hK
        go_wp2
        go_ret
        exact ⟨by rw [HE.out]; rfl, hb12⟩
      · have b1 : ((s[0].toNat : Int) != 35) = true := by rw [bne_iff_ne]; exact fun e => h1 (hh.2 e)
        have HE : Hid (F = true) := by
          show _ = _
          rw [← HF.out, if_neg h1, hkn.1 hlt]; simp
        clear HF HBL HN B0 hBg h0' hpl2 hkn hlt h1 hh hK
        go_wp2
        go_ret
        exact ⟨by rw [HE.out]; rfl, hb12⟩
    · have bK : ((K : Int) == (N : Int)) = false := by rw [beq_eq_false_iff_ne]; omega
      have HE : Hid (F = false) := by
        show _ = _
        rw [← HF.out]
        have hq : ¬ (q : Int) = (s.size : Int) := fun e => hlt (hkn.2 (by omega))
        rw [beq_eq_false_iff_ne.2 hq]; simp
      clear HF HBL HN B0 hBg h0' hpl2 hkn hlt hh hK
      go_wp2
      go_ret
      exact ⟨by rw [HE.out]; rfl, hb12⟩
  · have er0 : er ≠ 0 := h0'
    have be : (er == 0) = false := beq_eq_false_iff_ne.2 er0
    have HE : Hid (F = false) := by
      show _ = _
      rw [← HF.out, be]; simp
    clear HF HBL HN B0 h0' hh er0
    go_wp2
    go_ret
    exact ⟨by rw [HE.out]; rfl, hb12⟩

/-- the builder's length -/
theorem len_any (B b : Nat) (acc : List UInt8) (w : World) (h : Lib.IsBuilderF 80 5 B b (Lib.byteCells acc) w) (hl : acc.length ≤ 1000000000) :
    Calls Tryd.prog 62 #[.pointer (some ⟨b, 0, none⟩)] w fun e w' => e = .returned (.int .i64 (acc.length : Int)) ∧ w' = w := by
  have hc : ∃ ad cap, w.cell? ⟨b, 1, none⟩ = some (.slice ad acc.length cap) := by
    rcases h with ⟨_, v, hb, hown, _⟩ | ⟨_, v, hb, hown, _⟩
    all_goals
      have hlen := Lib.byteCells_length acc
      have hc1 : w.cell? ⟨b, 1, none⟩ = some v := by simp [World.cell?, hb]
      obtain ⟨hl, ho⟩ := hown
      rcases ho with ⟨ho, hn⟩ | ⟨g, cap, cur, fz, e1, e2, hg, e3⟩
      · rw [hlen] at hn
        rw [hc1, ho, hn]
        exact ⟨_, _, rfl⟩
      · rw [hlen] at e1
        rw [hc1, e1]
        exact ⟨_, _, rfl⟩
  obtain ⟨ad, cap, hc⟩ := hc
  generalize acc.length = N at *
  go_enter Tryd.func62, Tryd.ntmps62
  go_wp2
  go_ret
  exact ⟨rfl, rfl⟩
end Go.Proofs.YtckjededijgjgaaDoor.Bw
