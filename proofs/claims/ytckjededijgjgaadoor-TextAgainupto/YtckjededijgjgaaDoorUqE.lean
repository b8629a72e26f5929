import Derived.Test.YtckjededijgjgaaDoorUqC
import Derived.Test.YtckjededijgjgaaDoorQtB
namespace Go.Proofs.YtckjededijgjgaaDoor.Uq
open Go.RowKit Go.Shelf
open Go.Proofs.YtckjededijgjgaaDoor.Pc (P4 encP pieces Kp cut_in cut_stops_q Ofs kp_t kp_b kp_others pcF)
open Go.Proofs.YtckjededijgjgaaDoor.Nm (cellsP box_turn box_below others_below bld_turn bld_below bld_set others_of boxed_of leave)
open Go.Proofs.YtckjededijgjgaaDoor.Enc (Spans plainF plain_any)
open Go.Proofs.YtckjededijgjgaaDoor.Qt (Bs ownB of_place own_len tabs_below)
attribute [local go_sem] Oper.semAt_some
set_option linter.unusedVariables false

/-- the escape at a place -/
def escAt (s : ByteArray) (at_ : Int) : List UInt8 × Nat := escF (s.extract at_.toNat s.size).data.toList
/-- what readQuoted finds in pieces: the text, a place, an error -/
def rqG (s : ByteArray) : List P4 → Int → List UInt8 → List UInt8 × Int × Int
  | [], _, _ => ([], (s.size : Int), 11)
  | x :: t, nx, acc =>
    if x.2.1 < nx then rqG s t nx acc
    else if x.2.2.2 = true then ([], x.2.1, 13)
    else if x.1 = 34 then (acc, x.2.1 + 1, 0)
    else if x.1 = 92 then (if (escAt s x.2.1).2 = 0 then ([], x.2.1, 12) else rqG s t (x.2.1 + ((escAt s x.2.1).2 : Int)) (acc ++ (escAt s x.2.1).1))
    else if plainF x.1 = true then rqG s t nx (acc ++ (ownB s x).data.toList)
    else ([], x.2.1, 12)

theorem run_le (f : Nat) : ∀ n k l, (hexRun f n k l).2 ≤ k + f := by
  induction f with
  | zero => intro n k l; unfold hexRun; simp
  | succ f ih =>
    intro n k l
    cases l with
    | nil => unfold hexRun; simp
    | cons c r =>
      unfold hexRun
      split
      · simp
      · have := ih (16 * n + Num.hexV c.toNat) (k + 1) r
        omega
theorem enc_le (r : Int) : (Utf8.encode r).data.toList.length ≤ 4 := by
  unfold Utf8.encode
  simp only
  split
  · split
    · simp
    · split
      · simp
      · split <;> simp
  · decide
theorem escB_le (l : List UInt8) : (escB l).1.length ≤ 4 ∧ (escB l).2 ≤ 10 := by
  unfold escB
  split
  · simp
  · split <;> simp
theorem escRq_le (P Q v : Prop) [Decidable P] [Decidable Q] [Decidable v] (E : List UInt8) (c : Nat) (hE : E.length ≤ 4) (hc : c ≤ 6) : (if P then (([], 0) : List UInt8 × Nat) else if Q then ([], 0) else if v then (E, 3 + c + 1) else ([], 0)).1.length ≤ 4 ∧ (if P then (([], 0) : List UInt8 × Nat) else if Q then ([], 0) else if v then (E, 3 + c + 1) else ([], 0)).2 ≤ 10 := by
  by_cases c1 : P
  · rw [if_pos c1]; simp
  rw [if_neg c1]
  by_cases c2 : Q
  · rw [if_pos c2]; simp
  rw [if_neg c2]
  by_cases c3 : v
  · rw [if_pos c3]; exact ⟨hE, by show 3 + c + 1 ≤ 10; omega⟩
  rw [if_neg c3]
  simp
theorem escR_le (l : List UInt8) : (escR l).1.length ≤ 4 ∧ (escR l).2 ≤ 10 := by
  have hr := run_le 6 0 0 (l.drop 3)
  unfold escR
  exact escRq_le _ _ _ _ _ (enc_le _) (by omega)
theorem escF_le (l : List UInt8) : (escF l).1.length ≤ 4 ∧ (escF l).2 ≤ 10 := by
  have h1 := escB_le l
  have h2 := escR_le l
  unfold escF
  by_cases c0 : l.length < 2
  · rw [if_pos c0]; simp
  rw [if_neg c0]
  by_cases c1 : l.getD 1 0 = 34
  · rw [if_pos c1]; simp
  rw [if_neg c1]
  by_cases c2 : l.getD 1 0 = 92
  · rw [if_pos c2]; simp
  rw [if_neg c2]
  by_cases c3 : l.getD 1 0 = 110
  · rw [if_pos c3]; simp
  rw [if_neg c3]
  by_cases c4 : l.getD 1 0 = 114
  · rw [if_pos c4]; simp
  rw [if_neg c4]
  by_cases c5 : l.getD 1 0 = 116
  · rw [if_pos c5]; simp
  rw [if_neg c5]
  by_cases c6 : l.getD 1 0 = 120
  · rw [if_pos c6]; exact h1
  rw [if_neg c6]
  by_cases c7 : l.getD 1 0 = 117
  · rw [if_pos c7]; exact h2
  rw [if_neg c7]
  simp

theorem boxed_drew {W : World} {B : Nat} {t : TypeId} {v : Value} (h : Boxed W B t v) : Boxed W.drew B t v := h
/-- the three results set -/
theorem leave' {w W : World} {b : Nat} {o : ByteArray} {pl c : Int} {v0 v1 v2 : Value} (y0 : Boxed W b 9 v0) (y1 : Boxed W (b + 1) 3 v1) (y2 : Boxed W (b + 1 + 1) 22 v2) (hB1 : Below w.heap.size w W) (hb : w.heap.size ≤ b) :
    KeepsOthers W (((W.setCell ⟨b, 0, none⟩ (.string o)).setCell ⟨b + 1, 0, none⟩ (.int .i64 pl)).setCell ⟨b + 1 + 1, 0, none⟩ (.int .i64 c)) ∧ Boxed (((W.setCell ⟨b, 0, none⟩ (.string o)).setCell ⟨b + 1, 0, none⟩ (.int .i64 pl)).setCell ⟨b + 1 + 1, 0, none⟩ (.int .i64 c)) b 9 (.string o) ∧ Boxed (((W.setCell ⟨b, 0, none⟩ (.string o)).setCell ⟨b + 1, 0, none⟩ (.int .i64 pl)).setCell ⟨b + 1 + 1, 0, none⟩ (.int .i64 c)) (b + 1) 3 (.int .i64 pl) ∧ Boxed (((W.setCell ⟨b, 0, none⟩ (.string o)).setCell ⟨b + 1, 0, none⟩ (.int .i64 pl)).setCell ⟨b + 1 + 1, 0, none⟩ (.int .i64 c)) (b + 1 + 1) 22 (.int .i64 c) ∧ Below w.heap.size w (((W.setCell ⟨b, 0, none⟩ (.string o)).setCell ⟨b + 1, 0, none⟩ (.int .i64 pl)).setCell ⟨b + 1 + 1, 0, none⟩ (.int .i64 c)) :=
  ⟨((KeepsOthers.setCell _ _ _).trans (KeepsOthers.setCell _ _ _)).trans (KeepsOthers.setCell _ _ _),
   ((y0.set (.string o)).other (by omega) _).other (by omega) _,
   ((y1.other (by omega) _).set (.int .i64 pl)).other (by omega) _,
   ((y2.other (by omega) _).other (by omega) _).set (.int .i64 c),
   (((hB1.setCell (p := ⟨b, 0, none⟩) hb _).setCell (p := ⟨b + 1, 0, none⟩) (by simp; omega) _).setCell (p := ⟨b + 1 + 1, 0, none⟩) (by simp; omega) _)⟩

set_option maxRecDepth 100000 in
set_option maxHeartbeats 1000000 in
theorem readQuoted_in (n : Nat) (hn : 4 ≤ n) (s : ByteArray) (hs : s.size ≤ 11000000) (w : World) (R off cap : Nat) (hS : Spans w R off cap) :
    CallsIn Fence.wide n Tryd.prog 71 #[.string s] w fun e W' => e = .returned (.tuple #[.string ⟨(rqG s (pieces s) 1 []).1.toArray⟩, .int .i64 (rqG s (pieces s) 1 []).2.1, .int .i64 (rqG s (pieces s) 1 []).2.2]) ∧ Below w.heap.size w W' := by
  have h1 : 1 ≤ n := by omega
  have mixed : Tryd.prog.follows .mixedOrders = true := by kernel_rfl
  refine callsIn_of_wp_marks Tryd.func71 rfl trivial ?_ rfl
  simp only [Tryd.ntmps71, List.size_toArray, List.length_cons, List.length_nil, Nat.reduceAdd, Nat.reduceSub, Array.replicate_succ, Array.replicate_zero, List.push_toArray, List.append_toArray, List.nil_append, List.cons_append]
  gi_wp2_with (refine ⟨trivial, ?_⟩; gi_at_call 50; refine (cut_in _ _ _).mono ?_; rintro e w' ⟨rfl, rfl⟩)
  have x0 := ((((((Boxed.new w 9 (.string s)).alloc (.cells #[.string ⟨#[]⟩] 9)).alloc (.cells #[.int .i64 0] 3)).alloc (.cells #[.int .i64 0] 22)).alloc (.cells #[.pointer none, .slice none 0 0] 80)).alloc (.cells #[.int .i64 1] 3)).alloc (.cells #[.string s] 9)
  have x1 := (((((Boxed.new (w.alloc (.cells #[.string s] 9)) 9 (.string ⟨#[]⟩)).alloc (.cells #[.int .i64 0] 3)).alloc (.cells #[.int .i64 0] 22)).alloc (.cells #[.pointer none, .slice none 0 0] 80)).alloc (.cells #[.int .i64 1] 3)).alloc (.cells #[.string s] 9)
  have x2 := ((((Boxed.new ((w.alloc (.cells #[.string s] 9)).alloc (.cells #[.string ⟨#[]⟩] 9)) 3 (.int .i64 0)).alloc (.cells #[.int .i64 0] 22)).alloc (.cells #[.pointer none, .slice none 0 0] 80)).alloc (.cells #[.int .i64 1] 3)).alloc (.cells #[.string s] 9)
  have x3 := (((Boxed.new (((w.alloc (.cells #[.string s] 9)).alloc (.cells #[.string ⟨#[]⟩] 9)).alloc (.cells #[.int .i64 0] 3)) 22 (.int .i64 0)).alloc (.cells #[.pointer none, .slice none 0 0] 80)).alloc (.cells #[.int .i64 1] 3)).alloc (.cells #[.string s] 9)
  have xb := ((Lib.IsBuilderF.of (Lib.fresh_isBuilder 80 5 ((((w.alloc (.cells #[.string s] 9)).alloc (.cells #[.string ⟨#[]⟩] 9)).alloc (.cells #[.int .i64 0] 3)).alloc (.cells #[.int .i64 0] 22)))).alloc (.cells #[.int .i64 1] 3)).alloc (.cells #[.string s] 9)
  have x5 := (Boxed.new (((((w.alloc (.cells #[.string s] 9)).alloc (.cells #[.string ⟨#[]⟩] 9)).alloc (.cells #[.int .i64 0] 3)).alloc (.cells #[.int .i64 0] 22)).alloc (.cells #[.pointer none, .slice none 0 0] 80)) 3 (.int .i64 1)).alloc (.cells #[.string s] 9)
  have x6 := Boxed.new ((((((w.alloc (.cells #[.string s] 9)).alloc (.cells #[.string ⟨#[]⟩] 9)).alloc (.cells #[.int .i64 0] 3)).alloc (.cells #[.int .i64 0] 22)).alloc (.cells #[.pointer none, .slice none 0 0] 80)).alloc (.cells #[.int .i64 1] 3)) 9 (.string s)
  simp only [World.size_alloc] at x1 x2 x3 xb x5 x6
  have hB3 : Below w.heap.size w (((((((w.alloc (.cells #[.string s] 9)).alloc (.cells #[.string ⟨#[]⟩] 9)).alloc (.cells #[.int .i64 0] 3)).alloc (.cells #[.int .i64 0] 22)).alloc (.cells #[.pointer none, .slice none 0 0] 80)).alloc (.cells #[.int .i64 1] 3)).alloc (.cells #[.string s] 9)) := ((((((((Below.refl _ w).alloc (Nat.le_refl _) _).alloc (by simp) _).alloc (by simp; omega) _).alloc (by simp; omega) _).alloc (by simp; omega) _).alloc (by simp; omega) _).alloc (by simp; omega) _)
  have hsz3 : (((((((w.alloc (.cells #[.string s] 9)).alloc (.cells #[.string ⟨#[]⟩] 9)).alloc (.cells #[.int .i64 0] 3)).alloc (.cells #[.int .i64 0] 22)).alloc (.cells #[.pointer none, .slice none 0 0] 80)).alloc (.cells #[.int .i64 1] 3)).alloc (.cells #[.string s] 9)).heap.size = w.heap.size + 7 := by simp
  obtain ⟨W0, hW0⟩ : ∃ W0, (((((((w.alloc (.cells #[.string s] 9)).alloc (.cells #[.string ⟨#[]⟩] 9)).alloc (.cells #[.int .i64 0] 3)).alloc (.cells #[.int .i64 0] 22)).alloc (.cells #[.pointer none, .slice none 0 0] 80)).alloc (.cells #[.int .i64 1] 3)).alloc (.cells #[.string s] 9)) = W0 := ⟨_, rfl⟩
  rw [hW0] at x0 x1 x2 x3 xb x5 x6 hB3 hsz3 ⊢
  clear hW0
  have esc_le := fun a => escF_le (s.extract a s.size).data.toList
  refine wpIn_rangeFunc_ownH rfl h1 (gf := 89) (lb := #[.pointer (some ⟨w.heap.size + 1 + 1 + 1 + 1 + 1 + 1, 0, none⟩)]) rfl trivial (enters_of Tryd.func89 (by kernel_rfl) rfl)
    (cut_stops_q (n - 1) (by omega) (w.heap.size + 1 + 1 + 1 + 1 + 1 + 1) s (by omega) W0 x6) kp_t kp_b (Below.refl _ _) (fun _ => rfl)
    (fun pre W => ((Boxed W w.heap.size 9 (.string s) ∧ Boxed W (w.heap.size + 1) 9 (.string ⟨#[]⟩) ∧ Boxed W (w.heap.size + 1 + 1) 3 (.int .i64 0) ∧ Boxed W (w.heap.size + 1 + 1 + 1) 22 (.int .i64 0) ∧ Boxed W (w.heap.size + 1 + 1 + 1 + 1 + 1 + 1) 9 (.string s)) ∧ ∃ (acc : List UInt8) (nx : Int), Lib.IsBuilderF 80 5 (w.heap.size + 1 + 1 + 1 + 1) (w.heap.size + 1 + 1 + 1 + 1) (Lib.byteCells acc) W ∧ Boxed W (w.heap.size + 1 + 1 + 1 + 1 + 1) 3 (.int .i64 nx) ∧ (∀ rest, rqG s (pre.map (·.1) ++ rest) 1 [] = rqG s rest nx acc) ∧ acc.length ≤ 4 * pre.length ∧ 1 ≤ nx ∧ nx ≤ 11000100) ∧ Below w.heap.size w W)
    (fun c pre W => (c = Code.ret ∧ ∃ (o : ByteArray) (at_ e : Int), Boxed W (w.heap.size + 1) 9 (.string o) ∧ Boxed W (w.heap.size + 1 + 1) 3 (.int .i64 at_) ∧ Boxed W (w.heap.size + 1 + 1 + 1) 22 (.int .i64 e) ∧ ∀ rest, rqG s (pre.map (·.1) ++ rest) 1 [] = (o.data.toList, at_, e)) ∧ Below w.heap.size w W)
    (OwnFrom.and (Own.from (fun pre X Y row hs hg hr => ?_) _) (ownFrom_below (Nat.le_refl _) (by omega)))
    (fun c => OwnFrom.and (Own.from (fun pre X Y row hs hg hr => ?_) _) (ownFrom_below (Nat.le_refl _) (by omega)))
    ⟨⟨⟨x0, x1, x2, x3, x6⟩, [], 1, xb, x5, fun rest => rfl, by simp, by omega, by omega⟩, hB3⟩
    (fun x a' W => ∃ Bx, W.heap[Bx]? = some (.cells (cellsP x.1).toArray 55) ∧ a' = { tmps := #[.string s, .pointer (some ⟨w.heap.size, 0, none⟩), .pointer (some ⟨w.heap.size + 1, 0, none⟩), .pointer (some ⟨w.heap.size + 1 + 1, 0, none⟩), .pointer (some ⟨w.heap.size + 1 + 1 + 1, 0, none⟩), .pointer (some ⟨w.heap.size + 1 + 1 + 1 + 1, 0, none⟩), .pointer (some ⟨w.heap.size + 1 + 1 + 1 + 1 + 1, 0, none⟩), .pointer (some ⟨Bx, 0, none⟩), undef, undef, .string s, .func (.func 89) #[] #[.pointer (some ⟨w.heap.size + 1 + 1 + 1 + 1 + 1 + 1, 0, none⟩)], encP x.1, undef, undef, undef, undef, undef, undef, undef, undef, undef, undef, undef, undef, undef, undef, undef, undef, undef, undef, undef, undef, undef, undef, undef, undef, undef, undef, undef, undef, undef, undef, undef, undef, undef, undef, undef, undef, undef, undef, undef, undef, undef, undef, undef, undef, undef, undef, undef, undef, undef, undef, undef, undef, undef, undef, undef, undef, undef, undef], defers := [] })
    (fun x a' _ X Y row hs hg hr => by
      obtain ⟨Bx, h1, h2⟩ := hs
      refine ⟨Bx, (hg.block Bx (Array.getElem?_eq_some_iff.1 h1).1 (fun e => ?_)).trans h1, h2⟩
      obtain ⟨_, o, ho, hc⟩ := hr Bx e.symm
      rw [h1] at ho; cases ho; cases hc)
    ?assign ?body ?done ?stop
  · obtain ⟨⟨y0, y1, y2, y3, y6⟩, acc, nx, yb, y5, hp⟩ := hs
    exact ⟨⟨box_turn y0 hg hr, box_turn y1 hg hr, box_turn y2 hg hr, box_turn y3 hg hr, box_turn y6 hg hr⟩, acc, nx, bld_turn yb hg hr, box_turn y5 hg hr, hp⟩
  · obtain ⟨rfl, o, a1, e1, y1, y2, y3, hp⟩ := hs
    exact ⟨rfl, o, a1, e1, box_turn y1 hg hr, box_turn y2 hg hr, box_turn y3 hg hr, hp⟩
  case assign =>
    rintro l pre x W K ⟨⟨⟨y0, y1, y2, y3, y6⟩, acc, nx, yb, y5, hp⟩, hB1⟩ hK
    simp only [encP]
    gi_wp2
    exact hK _ _ ((KeepsOthers.alloc _ _).from _) (kp_others (KeepsOthers.alloc _ _) (fun v hv => hv.alloc _)) ⟨⟨⟨y0.alloc _, y1.alloc _, y2.alloc _, y3.alloc _, y6.alloc _⟩, acc, nx, yb.alloc _, y5.alloc _, hp⟩, hB1.alloc hB1.size _⟩ ⟨W.heap.size, World.alloc_heap_new W _, rfl⟩
  case body =>
    rintro l pre x a' W hl hq ⟨⟨⟨y0, y1, y2, y3, y6⟩, acc, nx, yb, y5, hrest, hacc, hnx1, hnx2⟩, hB1⟩ ⟨Bx, hX, rfl⟩ hlt
    obtain ⟨pos, k, hpl, hsz, hk1, hk4, hpk, hr0, hr1⟩ := of_place x.2
    have hmap : (pre ++ [x]).map (·.1) = pre.map (·.1) ++ [x.1] := by simp
    obtain ⟨r, hr⟩ : ∃ r, x.1.1 = r := ⟨_, rfl⟩
    obtain ⟨br, hbr⟩ : ∃ br, x.1.2.2.2 = br := ⟨_, rfl⟩
    have hxe : x.1 = (r, (pos : Int), (k : Int), br) := by rw [← hr, ← hpl, ← hsz, ← hbr]
    have HS : Hid (∀ rest, rqG s ((pre ++ [x]).map (·.1) ++ rest) 1 [] = rqG s ((r, (pos : Int), (k : Int), br) :: rest) nx acc) := by
      intro rest
      rw [hmap, List.append_assoc, hrest, hxe]
      rfl
    have hlen1 : (pre ++ [x]).length = pre.length + 1 := by simp
    have hownl := own_len x.2
    have HOW : Hid (ownB s (r, (pos : Int), (k : Int), br) = s.extract pos (pos + k)) := by
      show _ = _
      unfold Qt.ownB
      congr 1
    rw [hxe] at hX hownl
    rw [hr] at hr0 hr1
    have hen : encP x.1 = .agg #[.int .i32 r, .int .i64 (pos : Int), .int .i64 (k : Int), .bool br] := by rw [hxe]; rfl
    rw [hen]
    clear hmap hrest hr hbr hpl hsz hxe hen
    have p0 : W.cell? ⟨Bx, 0, none⟩ = some (.int .i32 r) := by simp [World.cell?, hX]
    have p1 : W.cell? ⟨Bx, 1, none⟩ = some (.int .i64 (pos : Int)) := by simp [World.cell?, hX]
    have p2 : W.cell? ⟨Bx, 2, none⟩ = some (.int .i64 (k : Int)) := by simp [World.cell?, hX]
    have p3 : W.cell? ⟨Bx, 3, none⟩ = some (.bool br) := by simp [World.cell?, hX]
    have k5 := y5.cell
    have k0 := y0.cell
    have hB5 : Bx ≠ w.heap.size + 1 + 1 + 1 + 1 + 1 := fun e => by
      have : W.heap[w.heap.size + 1 + 1 + 1 + 1 + 1]? = some (.cells #[.int .i64 nx] 3 (0, 0)) := y5
      rw [← e, hX] at this; cases this
    have hBb1 : Bx ≠ w.heap.size + 1 := fun e => by
      have : W.heap[w.heap.size + 1]? = some (.cells #[.string ⟨#[]⟩] 9 (0, 0)) := y1
      rw [← e, hX] at this; cases this
    have hBb : Bx ≠ w.heap.size + 1 + 1 + 1 + 1 := fun e => by
      obtain ⟨c, fz, hc⟩ := Nm.bld_block yb
      rw [← e, hX] at hc; cases hc
    have hposI : (pos : Int) ≤ 11000000 := by omega
    have hkI : (k : Int) ≤ 4 := by omega
    have hpkI : (pos : Int) + (k : Int) ≤ (s.size : Int) := by omega
    by_cases hA : (pos : Int) < nx
    · have HX : Hid (∀ rest, rqG s ((pre ++ [x]).map (·.1) ++ rest) 1 [] = rqG s rest nx acc) := by
        intro rest
        rw [HS.out, rqG, if_pos hA]
      gi_wp2
      exact ⟨(KeepsOthers.refl _).from _, kp_others (KeepsOthers.refl _) (fun v hv => hv), ⟨⟨y0, y1, y2, y3, y6⟩, acc, nx, yb, y5, HX.out, by rw [hlen1]; omega, hnx1, hnx2⟩, hB1⟩
    have hA' : ¬ (pos : Int) < nx := hA
    cases br with
    | true =>
      have HX : Hid (∀ rest, rqG s ((pre ++ [x]).map (·.1) ++ rest) 1 [] = ([], (pos : Int), 13)) := by
        intro rest
        rw [HS.out, rqG, if_neg hA, if_pos rfl]
      have L := leave' (o := ⟨#[]⟩) (pl := (pos : Int)) (c := 13) y1 y2 y3 hB1 (by omega)
      have k1 := y1.cell
      have k2 := y2.cell
      have k3 := y3.cell
      have z1 := y1.frozen
      have z2 := y2.frozen
      have z3 := y3.frozen
      gi_wp2
      gi_region_o
      all_goals gi_wp2
      all_goals exact ⟨(L.1.trans (KeepsOthers.drew _)).from _, ⟨rfl, ⟨#[]⟩, (pos : Int), 13, L.2.1, L.2.2.1, L.2.2.2.1, HX.out⟩, L.2.2.2.2.drew⟩
    | false =>
      have hfree : ¬ (false = true) := by simp
      by_cases c34 : r = 34
      · have HX : Hid (∀ rest, rqG s ((pre ++ [x]).map (·.1) ++ rest) 1 [] = (acc, (pos : Int) + 1, 0)) := by
          intro rest
          rw [HS.out, rqG, if_neg hA, if_neg hfree, if_pos c34]
        subst c34
        have hszW : w.heap.size + 1 + 1 + 1 + 1 ≤ W.drew.heap.size := by have := y5.lt; show _ ≤ W.heap.size; omega
        have STR := Bu.string (w.heap.size + 1 + 1 + 1 + 1) (w.heap.size + 1 + 1 + 1 + 1) acc W.drew yb hszW
        gi_wp2_with fail
        gi_region_with_o (refine ⟨trivial, fun _ => by omega, (CallsIn.inRound l (callsIn_wide.2 STR)).mono ?_⟩; rintro e W1 ⟨rfl, hbW, hblW, hkW⟩; have i1 := boxed_of hkW (show Boxed W.drew (w.heap.size + 1) 9 (.string ⟨#[]⟩) from y1) (by decide) (by omega); have i2 := boxed_of hkW (show Boxed W.drew (w.heap.size + 1 + 1) 3 (.int .i64 0) from y2) (by decide) (by omega); have i3 := boxed_of hkW (show Boxed W.drew (w.heap.size + 1 + 1 + 1) 22 (.int .i64 0) from y3) (by decide) (by omega); have k1' := i1.cell; have k2' := i2.cell; have k3' := i3.cell; have z1' := i1.frozen; have z2' := i2.frozen; have z3' := i3.frozen; have jX : W1.heap[Bx]? = some (.cells (cellsP (34, (pos : Int), (k : Int), false)).toArray 55 (0, 0)) := hkW Bx _ (show W.drew.heap[Bx]? = _ from hX) (fun e => hBb (by cases e; rfl)) (fun c fz e => by cases e); have p1' : W1.cell? ⟨Bx, 1, none⟩ = some (.int .i64 (pos : Int)) := by simp [World.cell?, jX])
        all_goals gi_wp2
        all_goals
          rw [show IntKind.i64.wrap ((pos : Int) + 1) = (pos : Int) + 1 by rw [IntKind.wrap_i64]; omega]
          have hBW : Below w.heap.size w W1 := hB1.drew.trans (hblW.mono (by omega))
          have L := leave' (o := ⟨acc.toArray⟩) (pl := (pos : Int) + 1) (c := 0) i1 i2 i3 hBW (by omega)
          have hko : KeepsOthers W W1 := (KeepsOthers.drew W).trans (others_of hkW hblW.size yb)
          exact ⟨(hko.trans L.1).from _, ⟨rfl, ⟨acc.toArray⟩, (pos : Int) + 1, 0, L.2.1, L.2.2.1, L.2.2.2.1, HX.out⟩, L.2.2.2.2⟩
      by_cases c92 : r = 92
      · subst c92
        have hle := esc_le pos
        have HE : Hid (escAt s (pos : Int) = escF (s.extract pos s.size).data.toList) := by show _ = _; unfold escAt; rw [Int.toNat_natCast]
        have ES := escape_any (s.extract pos s.size) (by rw [ByteArray.size_extract]; omega) W
        have HST : Hid (∀ rest, rqG s ((pre ++ [x]).map (·.1) ++ rest) 1 [] = if (escF (s.extract pos s.size).data.toList).2 = 0 then ([], (pos : Int), 12) else rqG s rest ((pos : Int) + ((escF (s.extract pos s.size).data.toList).2 : Int)) (acc ++ (escF (s.extract pos s.size).data.toList).1)) := by
          intro rest
          rw [HS.out, rqG, if_neg hA, if_neg hfree, if_neg c34, if_pos rfl, HE.out]
        generalize escF (s.extract pos s.size).data.toList = q at *
        obtain ⟨m, c⟩ := q
        simp only at hle ES HST
        by_cases hc0 : c = 0
        · have HX : Hid (∀ rest, rqG s ((pre ++ [x]).map (·.1) ++ rest) 1 [] = ([], (pos : Int), 12)) := by
            intro rest
            rw [HST.out, if_pos hc0]
          subst hc0
          gi_wp2_with fail
          refine ⟨trivial, fun _ => by omega, (CallsIn.inRound l (callsIn_wide.2 ES)).mono ?_⟩
          rintro e W1 ⟨rfl, hb⟩
          have j0 := box_below y0 hb
          have j1 := box_below y1 hb
          have j2 := box_below y2 hb
          have j3 := box_below y3 hb
          have j5 := box_below y5 hb
          have j6 := box_below y6 hb
          have jb := bld_below yb hb
          have jX : W1.heap[Bx]? = some (.cells (cellsP (92, (pos : Int), (k : Int), false)).toArray 55 (0, 0)) := (hb.block Bx (Array.getElem?_eq_some_iff.1 hX).1).trans hX
          have p1' : W1.cell? ⟨Bx, 1, none⟩ = some (.int .i64 (pos : Int)) := by simp [World.cell?, jX]
          have p2' : W1.cell? ⟨Bx, 2, none⟩ = some (.int .i64 (k : Int)) := by simp [World.cell?, jX]
          have k0' := j0.cell
          have k1' := j1.cell
          have k2' := j2.cell
          have k3' := j3.cell
          have k5' := j5.cell
          have z1' := j1.frozen
          have z2' := j2.frozen
          have z3' := j3.frozen
          have z5' := j5.frozen
          have hB2 : Below w.heap.size w W1 := hB1.trans (hb.mono hB1.size)
          have hszW : w.heap.size + 1 + 1 + 1 + 1 ≤ W1.heap.size := by have := j5.lt; omega
          have L := leave' (o := ⟨#[]⟩) (pl := (pos : Int)) (c := 12) j1 j2 j3 hB2 (by omega)
          gi_wp2
          gi_region_o
          all_goals gi_wp2
          all_goals exact ⟨(((others_below hb).trans L.1).trans (KeepsOthers.drew _)).from _, ⟨rfl, ⟨#[]⟩, (pos : Int), 12, L.2.1, L.2.2.1, L.2.2.2.1, HX.out⟩, L.2.2.2.2.drew⟩
        · have hc0b : ((c : Int) == 0) = false := by rw [beq_eq_false_iff_ne]; omega
          have HX : Hid (∀ rest, rqG s ((pre ++ [x]).map (·.1) ++ rest) 1 [] = rqG s rest ((pos : Int) + (c : Int)) (acc ++ m)) := by
            intro rest
            rw [HST.out, if_neg hc0]
          have hcI : (c : Int) ≤ 10 := by omega
          have hmz : (⟨m.toArray⟩ : ByteArray).size = m.length := by show m.toArray.size = _; simp
          gi_wp2_with fail
          refine ⟨trivial, fun _ => by omega, (CallsIn.inRound l (callsIn_wide.2 ES)).mono ?_⟩
          rintro e W1 ⟨rfl, hb⟩
          have j0 := box_below y0 hb
          have j1 := box_below y1 hb
          have j2 := box_below y2 hb
          have j3 := box_below y3 hb
          have j5 := box_below y5 hb
          have j6 := box_below y6 hb
          have jb := bld_below yb hb
          have jX : W1.heap[Bx]? = some (.cells (cellsP (92, (pos : Int), (k : Int), false)).toArray 55 (0, 0)) := (hb.block Bx (Array.getElem?_eq_some_iff.1 hX).1).trans hX
          have p1' : W1.cell? ⟨Bx, 1, none⟩ = some (.int .i64 (pos : Int)) := by simp [World.cell?, jX]
          have p2' : W1.cell? ⟨Bx, 2, none⟩ = some (.int .i64 (k : Int)) := by simp [World.cell?, jX]
          have k0' := j0.cell
          have k1' := j1.cell
          have k2' := j2.cell
          have k3' := j3.cell
          have k5' := j5.cell
          have z1' := j1.frozen
          have z2' := j2.frozen
          have z3' := j3.frozen
          have z5' := j5.frozen
          have hB2 : Below w.heap.size w W1 := hB1.trans (hb.mono hB1.size)
          have hszW : w.heap.size + 1 + 1 + 1 + 1 ≤ W1.heap.size := by have := j5.lt; omega
          have WS := (Bs.start jb hszW).str ⟨m.toArray⟩ (by rw [hmz]; omega)
          gi_wp2_with fail
          refine ⟨trivial, fun _ => by omega, (CallsIn.inRound l (callsIn_wide.2 WS)).mono ?_⟩
          rintro e W2 ⟨rfl, S2⟩
          have i0 := boxed_of S2.kept j0 (by decide) (by omega)
          have i1 := boxed_of S2.kept j1 (by decide) (by omega)
          have i2 := boxed_of S2.kept j2 (by decide) (by omega)
          have i3 := boxed_of S2.kept j3 (by decide) (by omega)
          have i5 := boxed_of S2.kept j5 (by decide) (by omega)
          have i6 := boxed_of S2.kept j6 (by decide) (by omega)
          have p1'' : W2.cell? ⟨Bx, 1, none⟩ = some (.int .i64 (pos : Int)) := by simp [World.cell?, S2.piece jX hBb]
          have k5'' := i5.cell
          have z5'' := i5.frozen
          have hB3 : Below w.heap.size w W2 := hB2.trans (S2.bel.mono (by omega))
          have hko := (((others_below hb).trans (others_of S2.kept S2.bel.size jb)).trans (KeepsOthers.setCell W2 ⟨w.heap.size + 1 + 1 + 1 + 1 + 1, 0, none⟩ (.int .i64 ((pos : Int) + (c : Int)))))
          have hbb : Lib.IsBuilderF 80 5 (w.heap.size + 1 + 1 + 1 + 1) (w.heap.size + 1 + 1 + 1 + 1) (Lib.byteCells (acc ++ m)) W2 := by
            have := S2.bld
            simpa using this
          gi_wp2
          refine ⟨hko.from _, kp_others hko (fun u hu => (boxed_of S2.kept (box_below hu hb) (by decide) (by omega)).other (by omega) _), ⟨⟨i0.other (by omega) _, i1.other (by omega) _, i2.other (by omega) _, i3.other (by omega) _, i6.other (by omega) _⟩, acc ++ m, (pos : Int) + (c : Int), bld_set hbb i5 (by decide) (by omega) _, i5.set _, HX.out, by rw [hlen1, List.length_append]; omega, by omega, by omega⟩, hB3.setCell (p := ⟨w.heap.size + 1 + 1 + 1 + 1 + 1, 0, none⟩) (by simp; omega) _⟩
      · have q1 : (r == 34) = false := beq_eq_false_iff_ne.2 c34
        have q2 : (r == 92) = false := beq_eq_false_iff_ne.2 c92
        have PL := plain_any r W R off cap (hS.below hB1 (Nat.le_refl _)) (by omega) (by omega)
        have HST : Hid (∀ rest, rqG s ((pre ++ [x]).map (·.1) ++ rest) 1 [] = if plainF r = true then rqG s rest nx (acc ++ (s.extract pos (pos + k)).data.toList) else ([], (pos : Int), 12)) := by
          intro rest
          rw [HS.out, rqG, if_neg hA, if_neg hfree, if_neg c34, if_neg c92, HOW.out]
        cases hpf : plainF r
        · rw [hpf] at PL
          have HX : Hid (∀ rest, rqG s ((pre ++ [x]).map (·.1) ++ rest) 1 [] = ([], (pos : Int), 12)) := by
            intro rest
            rw [HST.out, hpf]; rfl
          gi_wp2_with fail
          refine ⟨trivial, fun _ => by omega, (CallsIn.inRound l (callsIn_wide.2 PL)).mono ?_⟩
          rintro e W1 ⟨rfl, hb⟩
          have j0 := box_below y0 hb
          have j1 := box_below y1 hb
          have j2 := box_below y2 hb
          have j3 := box_below y3 hb
          have j5 := box_below y5 hb
          have j6 := box_below y6 hb
          have jb := bld_below yb hb
          have jX : W1.heap[Bx]? = some (.cells (cellsP (r, (pos : Int), (k : Int), false)).toArray 55 (0, 0)) := (hb.block Bx (Array.getElem?_eq_some_iff.1 hX).1).trans hX
          have p1' : W1.cell? ⟨Bx, 1, none⟩ = some (.int .i64 (pos : Int)) := by simp [World.cell?, jX]
          have p2' : W1.cell? ⟨Bx, 2, none⟩ = some (.int .i64 (k : Int)) := by simp [World.cell?, jX]
          have k0' := j0.cell
          have k1' := j1.cell
          have k2' := j2.cell
          have k3' := j3.cell
          have k5' := j5.cell
          have z1' := j1.frozen
          have z2' := j2.frozen
          have z3' := j3.frozen
          have z5' := j5.frozen
          have hB2 : Below w.heap.size w W1 := hB1.trans (hb.mono hB1.size)
          have hszW : w.heap.size + 1 + 1 + 1 + 1 ≤ W1.heap.size := by have := j5.lt; omega
          have L := leave' (o := ⟨#[]⟩) (pl := (pos : Int)) (c := 12) j1 j2 j3 hB2 (by omega)
          gi_wp2
          gi_region_o
          all_goals gi_wp2
          all_goals exact ⟨(((others_below hb).trans L.1).trans (KeepsOthers.drew _)).from _, ⟨rfl, ⟨#[]⟩, (pos : Int), 12, L.2.1, L.2.2.1, L.2.2.2.1, HX.out⟩, L.2.2.2.2.drew⟩
        · rw [hpf] at PL
          have HX : Hid (∀ rest, rqG s ((pre ++ [x]).map (·.1) ++ rest) 1 [] = rqG s rest nx (acc ++ (s.extract pos (pos + k)).data.toList)) := by
            intro rest
            rw [HST.out, hpf]; rfl
          have hez : (s.extract pos (pos + k)).size ≤ 4 := by rw [ByteArray.size_extract]; omega
          have hel : (s.extract pos (pos + k)).data.toList.length ≤ 4 := by rw [Array.length_toList]; exact hez
          gi_wp2_with fail
          refine ⟨trivial, fun _ => by omega, (CallsIn.inRound l (callsIn_wide.2 PL)).mono ?_⟩
          rintro e W1 ⟨rfl, hb⟩
          have j0 := box_below y0 hb
          have j1 := box_below y1 hb
          have j2 := box_below y2 hb
          have j3 := box_below y3 hb
          have j5 := box_below y5 hb
          have j6 := box_below y6 hb
          have jb := bld_below yb hb
          have jX : W1.heap[Bx]? = some (.cells (cellsP (r, (pos : Int), (k : Int), false)).toArray 55 (0, 0)) := (hb.block Bx (Array.getElem?_eq_some_iff.1 hX).1).trans hX
          have p1' : W1.cell? ⟨Bx, 1, none⟩ = some (.int .i64 (pos : Int)) := by simp [World.cell?, jX]
          have p2' : W1.cell? ⟨Bx, 2, none⟩ = some (.int .i64 (k : Int)) := by simp [World.cell?, jX]
          have k0' := j0.cell
          have k1' := j1.cell
          have k2' := j2.cell
          have k3' := j3.cell
          have k5' := j5.cell
          have z1' := j1.frozen
          have z2' := j2.frozen
          have z3' := j3.frozen
          have z5' := j5.frozen
          have hB2 : Below w.heap.size w W1 := hB1.trans (hb.mono hB1.size)
          have hszW : w.heap.size + 1 + 1 + 1 + 1 ≤ W1.heap.size := by have := j5.lt; omega
          have WS := (Bs.start jb hszW).str (s.extract pos (pos + k)) (by omega)
          gi_wp2_with fail
          refine ⟨trivial, fun _ => by omega, (CallsIn.inRound l (callsIn_wide.2 WS)).mono ?_⟩
          rintro e W2 ⟨rfl, S2⟩
          have i0 := boxed_of S2.kept j0 (by decide) (by omega)
          have i1 := boxed_of S2.kept j1 (by decide) (by omega)
          have i2 := boxed_of S2.kept j2 (by decide) (by omega)
          have i3 := boxed_of S2.kept j3 (by decide) (by omega)
          have i5 := boxed_of S2.kept j5 (by decide) (by omega)
          have i6 := boxed_of S2.kept j6 (by decide) (by omega)
          have hB3 : Below w.heap.size w W2 := hB2.trans (S2.bel.mono (by omega))
          have hko := (others_below hb).trans (others_of S2.kept S2.bel.size jb)
          gi_wp2
          exact ⟨hko.from _, kp_others hko (fun u hu => boxed_of S2.kept (box_below hu hb) (by decide) (by omega)), ⟨⟨i0, i1, i2, i3, i6⟩, _, nx, S2.bld, i5, HX.out, by rw [hlen1, List.length_append]; omega, hnx1, hnx2⟩, hB3⟩
  case done =>
    rintro D ys W hD hys ⟨⟨⟨y0, y1, y2, y3, y6⟩, acc, nx, yb, y5, hrest, hacc, hnx1, hnx2⟩, hB1⟩ hK
    have hres : rqG s (pieces s) 1 [] = ([], (s.size : Int), 11) := by
      have := hrest []
      have hys' : ys.map (·.1) = pieces s := hys
      rw [List.append_nil, hys'] at this
      rw [this]
      rfl
    have HR := hide hres
    clear hres hrest
    have k0 := y0.cell
    have k1 := y1.cell
    have k2 := y2.cell
    have k3 := y3.cell
    have z1 := y1.frozen
    have z2 := y2.frozen
    have z3 := y3.frozen
    have L := leave' (o := ⟨#[]⟩) (pl := (s.size : Int)) (c := 11) y1 y2 y3 hB1 (by omega)
    gi_wp2
    gi_region_o
    all_goals gi_wp2
    all_goals
      have hK2 := (L.1.trans (KeepsOthers.drew _)).same D _ hK rfl
      have f1 := ((boxed_drew L.2.1).kept (grownBy_putObj' _ D (.deferred none)) (fun e => by cases e; omega)).cell
      have f2 := ((boxed_drew L.2.2.1).kept (grownBy_putObj' _ D (.deferred none)) (fun e => by cases e; omega)).cell
      have f3 := ((boxed_drew L.2.2.2.1).kept (grownBy_putObj' _ D (.deferred none)) (fun e => by cases e; omega)).cell
      refine ⟨by simp, .inl ⟨_, _, rfl, run_takeDeferred hK2, ?_⟩⟩
      refine ⟨.tuple #[.string ⟨#[]⟩, .int .i64 (s.size : Int), .int .i64 11], ?_, by rw [HR.out], L.2.2.2.2.drew.trans (belowK_b (w := w) (Nat.le_refl _) _ D _ _ (by omega) hK2 rfl rfl)⟩
      simp [results, Tryd.results71, go_sem, f1, f2, f3]
  case stop =>
    rintro D c pre W hD hpre ⟨⟨rfl, o, a1, e1, y1, y2, y3, hrest⟩, hB1⟩ hK
    obtain ⟨rest, hpp⟩ := hpre
    have hres : rqG s (pieces s) 1 [] = (o.data.toList, a1, e1) := by rw [← hpp]; exact hrest rest
    have HR := hide hres
    clear hrest hres
    gi_wp2
    have f1 := (y1.kept (grownBy_putObj' _ D (.deferred none)) (fun e => by cases e; omega)).cell
    have f2 := (y2.kept (grownBy_putObj' _ D (.deferred none)) (fun e => by cases e; omega)).cell
    have f3 := (y3.kept (grownBy_putObj' _ D (.deferred none)) (fun e => by cases e; omega)).cell
    refine ⟨by simp, .inl ⟨_, _, rfl, run_takeDeferred hK, ?_⟩⟩
    refine ⟨.tuple #[.string o, .int .i64 a1, .int .i64 e1], ?_, by rw [HR.out, ba], hB1.trans (belowK_b (w := w) (Nat.le_refl _) W D _ _ (by omega) hK rfl rfl)⟩
    simp [results, Tryd.results71, go_sem, f1, f2, f3]

/-- what readQuoted answers -/
theorem readQuoted_any (s : ByteArray) (hs : s.size ≤ 11000000) (w : World) (R off cap : Nat) (hS : Spans w R off cap) :
    Calls Tryd.prog 71 #[.string s] w fun e W' => e = .returned (.tuple #[.string ⟨(rqG s (pieces s) 1 []).1.toArray⟩, .int .i64 (rqG s (pieces s) 1 []).2.1, .int .i64 (rqG s (pieces s) 1 []).2.2]) ∧ Below w.heap.size w W' :=
  (callsIn_wide (n := 4)).1 (readQuoted_in 4 (by omega) s hs w R off cap hS)
end Go.Proofs.YtckjededijgjgaaDoor.Uq
namespace Go.Proofs.YtckjededijgjgaaDoor.Uq
open Go.RowKit
open Go.Proofs.YtckjededijgjgaaDoor.Pc (pieces)
open Go.Proofs.YtckjededijgjgaaDoor.Enc (Spans)
set_option linter.unusedVariables false

/-- does the text begin with a quotation mark? -/
def preQ (l : List UInt8) : Bool := Lib.hasPrefix l [34]
/-- what Unquote answers -/
def unqF (s : ByteArray) : List UInt8 × Int × Int :=
  if preQ s.data.toList = false then ([], 0, 11)
  else if (rqG s (pieces s) 1 []).2.2 ≠ 0 then ([], (rqG s (pieces s) 1 []).2.1, (rqG s (pieces s) 1 []).2.2)
  else if (rqG s (pieces s) 1 []).2.1 < (s.size : Int) then ([], (rqG s (pieces s) 1 []).2.1, 11)
  else ((rqG s (pieces s) 1 []).1, 0, 0)
def three (r : List UInt8 × Int × Int) : Value := .tuple #[.string ⟨r.1.toArray⟩, .int .i64 r.2.1, .int .i64 r.2.2]
theorem hasQ (s : ByteArray) (b : Bool) (h : preQ s.data.toList = b) (w : World) : Calls Tryd.prog 68 #[.string s, .string ⟨#[34]⟩] w fun e w' => e = .returned (.bool b) ∧ w' = w := by
  have := Tryd.strings_HasPrefix s ⟨#[34]⟩ w
  rw [show (⟨#[34]⟩ : ByteArray).data.toList = [34] from rfl] at this
  unfold preQ at h
  rw [h] at this
  exact this

set_option maxRecDepth 100000 in
set_option maxHeartbeats 1000000 in
theorem unquote_any (s : ByteArray) (hs : s.size ≤ 11000000) (w : World) (R off cap : Nat) (hS : Spans w R off cap) :
    Calls Tryd.prog 33 #[.string s] w fun e W' => e = .returned (three (unqF s)) ∧ Below w.heap.size w W' := by
  have RQ := readQuoted_any s hs w R off cap hS
  unfold unqF
  generalize rqG s (pieces s) 1 [] = q at *
  obtain ⟨v, e0, er⟩ := q
  simp only at RQ ⊢
  cases hp : preQ s.data.toList
  · have H := hasQ s false hp w
    rw [if_pos rfl]
    clear hp RQ
    go_enter Tryd.func33, Tryd.ntmps33
    go_wp2_with fail
    refine H.mono ?_; rintro e w1 ⟨rfl, hw⟩; obtain rfl := hw.symm
    go_wp2
    go_ret3
    exact ⟨rfl, Below.refl _ _⟩
  · have H := hasQ s true hp w
    rw [if_neg (by simp)]
    clear hp
    by_cases h1 : er = 0
    · rw [if_neg (by simp [h1])]
      have b1 : (er != 0) = false := by rw [h1]; rfl
      by_cases h2 : e0 < (s.size : Int)
      · rw [if_pos h2]
        clear h1
        go_enter Tryd.func33, Tryd.ntmps33
        go_wp2_with fail
        refine H.mono ?_; rintro e w1 ⟨rfl, hw⟩; obtain rfl := hw.symm
        go_wp2_with fail
        refine RQ.mono ?_; rintro e w1 ⟨rfl, hb1⟩
        go_wp2
        go_ret3
        exact ⟨rfl, hb1⟩
      · rw [if_neg h2]
        clear h1
        go_enter Tryd.func33, Tryd.ntmps33
        go_wp2_with fail
        refine H.mono ?_; rintro e w1 ⟨rfl, hw⟩; obtain rfl := hw.symm
        go_wp2_with fail
        refine RQ.mono ?_; rintro e w1 ⟨rfl, hb1⟩
        go_wp2
        go_ret3
        exact ⟨rfl, hb1⟩
    · rw [if_pos h1]
      have b1 : (er != 0) = true := by rw [bne_iff_ne]; exact h1
      clear h1
      go_enter Tryd.func33, Tryd.ntmps33
      go_wp2_with fail
      refine H.mono ?_; rintro e w1 ⟨rfl, hw⟩; obtain rfl := hw.symm
      go_wp2_with fail
      refine RQ.mono ?_; rintro e w1 ⟨rfl, hb1⟩
      go_wp2
      go_ret3
      exact ⟨rfl, hb1⟩
end Go.Proofs.YtckjededijgjgaaDoor.Uq
