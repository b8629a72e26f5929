import Derived.Test.YtckjededijgjgaaDoorHxB
import Derived.Test.YtckjededijgjgaaDoorDgA
import Derived.Test.YtckjededijgjgaaDoorNmC
import Derived.Test.YtckjededijgjgaaDoorEncB
import Derived.Test.YtckjededijgjgaaDoorOrd
import Derived.Test.YtckjededijgjgaaDoorPcQ
import Derived.Test.YtckjededijgjgaaDoorPcF
import Derived.Test.YtckjededijgjgaaDoorWdA
namespace Go.Proofs.YtckjededijgjgaaDoor.Qt
open Go.RowKit Go.Shelf
open Go.Proofs.YtckjededijgjgaaDoor.Pc (P4 encP)
open Go.Proofs.YtckjededijgjgaaDoor.Hx (hexL Tabs fmtInt_16 hexL_len16)
open Go.Proofs.YtckjededijgjgaaDoor.Enc (Spans plainF plain_any)
set_option linter.unusedVariables false

theorem hide {p : Prop} (h : p) : Hid p := h
/-- what is printed of a piece -/
def prn (own : List UInt8) (r : Int) (br : Bool) : List UInt8 :=
  if br = true then [92, 120] ++ hexL r.toNat
  else if r = 34 then [92, 34] else if r = 92 then [92, 92] else if r = 10 then [92, 110] else if r = 13 then [92, 114] else if r = 9 then [92, 116]
  else if plainF r = true then own else [92, 117, 123] ++ hexL r.toNat ++ [125]

theorem tabs_below {B : Nat} {w w' : World} (h : Tabs w) (hb : Below B w w') (h5 : 5 < B) : Tabs w' := by
  obtain ⟨h1, h2, h3⟩ := h
  refine ⟨?_, ?_, by have := hb.size; omega⟩
  · unfold Lib.TabIs World.var? at h1 ⊢
    have g2 : Tryd.prog.globalNamed "internal/strconv.uint64pow10" = some 2 := by kernel_rfl
    rw [g2] at h1 ⊢
    simp only [Option.bind_some] at h1 ⊢
    rw [hb.block 2 (by omega)]
    exact h1
  · unfold World.cell? at h2 ⊢
    rw [hb.block 5 h5]
    exact h2
theorem kept_below {b : Nat} {W W' : World} (hb : Below W.heap.size W W') : Lib.OthersKept 5 (some b) W W' := fun k o hk _ _ => (hb.block k (Array.getElem?_eq_some_iff.1 hk).1).trans hk

/-- the builder holds acc; all else is as it was -/
structure Bs (B b : Nat) (acc : List UInt8) (w0 w : World) : Prop where
  bld : Lib.IsBuilderF 80 5 B b (Lib.byteCells acc) w
  bel : Below B w0 w
  kept : Lib.OthersKept 5 (some b) w0 w
  base : B ≤ w0.heap.size

theorem Bs.room {B b : Nat} {acc : List UInt8} {w0 w : World} (h : Bs B b acc w0 w) : B ≤ w.heap.size := Nat.le_trans h.base h.bel.size
theorem Bs.call {B b : Nat} {acc : List UInt8} {w0 w w' : World} (h : Bs B b acc w0 w) (hb : Below w.heap.size w w') : Bs B b acc w0 w' :=
  ⟨Nm.bld_below h.bld hb, h.bel.trans (hb.mono h.room), h.kept.trans (kept_below hb), h.base⟩
theorem Bs.str {B b : Nat} {acc : List UInt8} {w0 w : World} (h : Bs B b acc w0 w) (s : ByteArray) (hl : acc.length + s.size ≤ 140737488355328) :
    Calls Tryd.prog 61 #[.pointer (some ⟨b, 0, none⟩), .string s] w fun e w' => e = .returned (.tuple #[.int .i64 s.size, .nilIface]) ∧ Bs B b (acc ++ s.data.toList) w0 w' := by
  refine (Bu.writeString B b _ s w h.bld (by rw [Lib.byteCells_length]; exact hl) h.room).mono ?_
  rintro e w' ⟨rfl, h1, h2, h3⟩
  refine ⟨rfl, ?_, h.bel.trans h2, h.kept.trans h3, h.base⟩
  rw [Lib.byteCells_append]
  exact .inr h1
theorem Bs.byte {B b : Nat} {acc : List UInt8} {w0 w : World} (h : Bs B b acc w0 w) (c : UInt8) (z : Int) (hz : z = (c.toNat : Int)) (hl : acc.length + 1 ≤ 140737488355328) :
    Calls Tryd.prog 54 #[.pointer (some ⟨b, 0, none⟩), .int .u8 z] w fun e w' => e = .returned .nilIface ∧ Bs B b (acc ++ [c]) w0 w' := by
  subst hz
  refine (Bu.writeByte B b _ (c.toNat : Int) w h.bld (by rw [Lib.byteCells_length]; exact hl) h.room).mono ?_
  rintro e w' ⟨rfl, h1, h2, h3⟩
  refine ⟨rfl, ?_, h.bel.trans h2, h.kept.trans h3, h.base⟩
  rw [Lib.byteCells_append]
  exact .inr h1

theorem Bs.start {B b : Nat} {acc : List UInt8} {w : World} (h : Lib.IsBuilderF 80 5 B b (Lib.byteCells acc) w) (hB : B ≤ w.heap.size) : Bs B b acc w w := ⟨h, Below.refl _ _, Lib.OthersKept.refl _ _ _, hB⟩
theorem Bs.from {B b : Nat} {acc : List UInt8} {w wa w' : World} (h : Bs B b acc wa w') (hb : Below w.heap.size w wa) (hB : B ≤ w.heap.size) : Bs B b acc w w' :=
  ⟨h.bld, (hb.mono hB).trans h.bel, (kept_below hb).trans h.kept, hB⟩
/-- a piece's cells, still there -/
theorem Bs.piece {B b k : Nat} {acc : List UInt8} {wa w : World} {c : Array Value} (h : Bs B b acc wa w) (hk : wa.heap[k]? = some (.cells c 55 (0, 0))) (hne : k ≠ b) : w.heap[k]? = some (.cells c 55 (0, 0)) :=
  h.kept k _ hk (fun e => hne (by cases e; rfl)) (fun c fz e => by cases e)

set_option maxHeartbeats 1000000 in
theorem quotePiece_any (B b : Nat) (acc : List UInt8) (own : ByteArray) (x : P4) (h0 : 0 ≤ x.1) (h1 : x.1 ≤ 1114111) (w : World) (hb : Lib.IsBuilderF 80 5 B b (Lib.byteCells acc) w) (hB : B ≤ w.heap.size) (h5 : 5 < B)
    (hT : Tabs w) (R off cap : Nat) (hS : Spans w R off cap) (hl : acc.length ≤ 100000000) (ho : own.size ≤ 4) :
    Calls Tryd.prog 55 #[.pointer (some ⟨b, 0, none⟩), .string own, encP x] w fun e w' => e = .returned (.tuple #[]) ∧ Bs B b (acc ++ prn own.data.toList x.1 x.2.2.2) w w' := by
  obtain ⟨r, pl, sz, br⟩ := x
  simp only at h0 h1 ⊢
  obtain ⟨n, hn⟩ : ∃ n : Nat, r = (n : Int) := ⟨r.toNat, by omega⟩
  have hnb : n ≤ 1114111 := by omega
  have HN := hide hn
  clear hn
  have hbw := (Below.refl w.heap.size w).alloc (Nat.le_refl _) (.cells #[.int .i32 r, .int .i64 pl, .int .i64 sz, .bool br] 55)
  have hp : (w.alloc (.cells #[.int .i32 r, .int .i64 pl, .int .i64 sz, .bool br] 55)).heap[w.heap.size]? = some (.cells #[.int .i32 r, .int .i64 pl, .int .i64 sz, .bool br] 55 (0, 0)) := World.alloc_heap_new w _
  have S1 := Bs.start (Nm.bld_below hb hbw) (by have := hbw.size; omega)
  have hTA := tabs_below hT (hbw.mono hB) h5
  have hSA := hS.below hbw (Nat.le_refl _)
  have hne : w.heap.size ≠ b := by
    obtain ⟨c, fz, hc⟩ := Nm.bld_block hb
    have := (Array.getElem?_eq_some_iff.1 hc).1
    omega
  show Calls Tryd.prog 55 #[.pointer (some ⟨b, 0, none⟩), .string own, .agg #[.int .i32 r, .int .i64 pl, .int .i64 sz, .bool br]] w _
  cases br
  · by_cases c1 : r = 34
    · have e : prn own.data.toList r false = [92, 34] := by unfold prn; rw [if_neg (by simp), if_pos c1]
      rw [e]
      subst c1
      go_enter Tryd.func55, Tryd.ntmps55
      go_wp2_with fail
      refine (S1.str ⟨#[92, 34]⟩ (by show acc.length + 2 ≤ _; omega)).mono ?_
      rintro e w1 ⟨rfl, S2⟩
      go_wp2
      go_end0
      exact ⟨rfl, S2.from hbw hB⟩
    by_cases c2 : r = 92
    · have e : prn own.data.toList r false = [92, 92] := by unfold prn; rw [if_neg (by simp), if_neg c1, if_pos c2]
      rw [e]
      subst c2
      go_enter Tryd.func55, Tryd.ntmps55
      go_wp2_with fail
      refine (S1.str ⟨#[92, 92]⟩ (by show acc.length + 2 ≤ _; omega)).mono ?_
      rintro e w1 ⟨rfl, S2⟩
      go_wp2
      go_end0
      exact ⟨rfl, S2.from hbw hB⟩
    by_cases c3 : r = 10
    · have e : prn own.data.toList r false = [92, 110] := by unfold prn; rw [if_neg (by simp), if_neg c1, if_neg c2, if_pos c3]
      rw [e]
      subst c3
      go_enter Tryd.func55, Tryd.ntmps55
      go_wp2_with fail
      refine (S1.str ⟨#[92, 110]⟩ (by show acc.length + 2 ≤ _; omega)).mono ?_
      rintro e w1 ⟨rfl, S2⟩
      go_wp2
      go_end0
      exact ⟨rfl, S2.from hbw hB⟩
    by_cases c4 : r = 13
    · have e : prn own.data.toList r false = [92, 114] := by unfold prn; rw [if_neg (by simp), if_neg c1, if_neg c2, if_neg c3, if_pos c4]
      rw [e]
      subst c4
      go_enter Tryd.func55, Tryd.ntmps55
      go_wp2_with fail
      refine (S1.str ⟨#[92, 114]⟩ (by show acc.length + 2 ≤ _; omega)).mono ?_
      rintro e w1 ⟨rfl, S2⟩
      go_wp2
      go_end0
      exact ⟨rfl, S2.from hbw hB⟩
    by_cases c5 : r = 9
    · have e : prn own.data.toList r false = [92, 116] := by unfold prn; rw [if_neg (by simp), if_neg c1, if_neg c2, if_neg c3, if_neg c4, if_pos c5]
      rw [e]
      subst c5
      go_enter Tryd.func55, Tryd.ntmps55
      go_wp2_with fail
      refine (S1.str ⟨#[92, 116]⟩ (by show acc.length + 2 ≤ _; omega)).mono ?_
      rintro e w1 ⟨rfl, S2⟩
      go_wp2
      go_end0
      exact ⟨rfl, S2.from hbw hB⟩
    have q1 : (r == 34) = false := beq_eq_false_iff_ne.2 c1
    have q2 : (r == 92) = false := beq_eq_false_iff_ne.2 c2
    have q3 : (r == 10) = false := beq_eq_false_iff_ne.2 c3
    have q4 : (r == 13) = false := beq_eq_false_iff_ne.2 c4
    have q5 : (r == 9) = false := beq_eq_false_iff_ne.2 c5
    have PL := plain_any r _ R off cap hSA (by omega) (by omega)
    cases hpf : plainF r
    · have e : prn own.data.toList r false = [92, 117, 123] ++ hexL n ++ [125] := by unfold prn; rw [if_neg (by simp), if_neg c1, if_neg c2, if_neg c3, if_neg c4, if_neg c5, hpf, if_neg (by simp), HN.out]; rfl
      rw [e]
      rw [hpf] at PL
      clear e hpf c1 c2 c3 c4 c5
      have hl16 := hexL_len16 (Nat.lt_of_le_of_lt hnb (by decide))
      have hz : (⟨(hexL n).toArray⟩ : ByteArray).size = (hexL n).length := by show (hexL n).toArray.size = _; simp
      go_enter Tryd.func55, Tryd.ntmps55
      go_wp2_with fail
      refine PL.mono ?_; rintro e w1 ⟨rfl, hb1⟩
      have S2 := S1.call hb1
      go_wp2_with fail
      refine (S2.str ⟨#[92, 117, 123]⟩ (by show acc.length + 3 ≤ _; omega)).mono ?_
      rintro e w2 ⟨rfl, S3⟩
      have p2 := S3.piece hp hne
      have k0 : w2.cell? ⟨w.heap.size, 0, none⟩ = some (.int .i32 r) := by simp [World.cell?, p2]
      have hT2 := tabs_below hTA S3.bel h5
      have FI := fmtInt_16 n (Nat.lt_of_le_of_lt hnb (by decide)) w2 hT2.bru hT2.five
      rw [← HN.out] at FI
      go_wp2_with fail
      refine FI.mono ?_; rintro e w3 ⟨rfl, hb3⟩
      have S4 := S3.call hb3
      go_wp2_with fail
      refine (S4.str ⟨(hexL n).toArray⟩ (by rw [hz]; simp; omega)).mono ?_
      rintro e w4 ⟨rfl, S5⟩
      go_wp2_with fail
      refine (S5.byte 125 125 rfl (by simp; omega)).mono ?_
      rintro e w5 ⟨rfl, S6⟩
      go_wp2
      go_end0
      refine ⟨rfl, ?_⟩
      have := S6.from hbw hB
      rw [show acc ++ 92 :: 117 :: 123 :: (hexL n ++ [125]) = acc ++ [92, 117, 123] ++ hexL n ++ [125] by simp]
      exact this
    · have e : prn own.data.toList r false = own.data.toList := by unfold prn; rw [if_neg (by simp), if_neg c1, if_neg c2, if_neg c3, if_neg c4, if_neg c5, hpf, if_pos rfl]
      rw [e]
      rw [hpf] at PL
      clear e hpf c1 c2 c3 c4 c5
      go_enter Tryd.func55, Tryd.ntmps55
      go_wp2_with fail
      refine PL.mono ?_; rintro e w1 ⟨rfl, hb1⟩
      have S2 := S1.call hb1
      go_wp2_with fail
      refine (S2.str own (by omega)).mono ?_
      rintro e w2 ⟨rfl, S3⟩
      go_wp2
      go_end0
      exact ⟨rfl, S3.from hbw hB⟩
  · have e : prn own.data.toList r true = [92, 120] ++ hexL n := by unfold prn; rw [if_pos rfl, HN.out]; rfl
    rw [e]
    clear e
    have hl16 := hexL_len16 (Nat.lt_of_le_of_lt hnb (by decide))
    have hz : (⟨(hexL n).toArray⟩ : ByteArray).size = (hexL n).length := by show (hexL n).toArray.size = _; simp
    go_enter Tryd.func55, Tryd.ntmps55
    go_wp2_with fail
    refine (S1.str ⟨#[92, 120]⟩ (by show acc.length + 2 ≤ _; omega)).mono ?_
    rintro e w2 ⟨rfl, S3⟩
    have p2 := S3.piece hp hne
    have k0 : w2.cell? ⟨w.heap.size, 0, none⟩ = some (.int .i32 r) := by simp [World.cell?, p2]
    have hT2 := tabs_below hTA S3.bel h5
    have FI := fmtInt_16 n (Nat.lt_of_le_of_lt hnb (by decide)) w2 hT2.bru hT2.five
    rw [← HN.out] at FI
    go_wp2_with fail
    refine FI.mono ?_; rintro e w3 ⟨rfl, hb3⟩
    have S4 := S3.call hb3
    go_wp2_with fail
    refine (S4.str ⟨(hexL n).toArray⟩ (by rw [hz]; simp; omega)).mono ?_
    rintro e w4 ⟨rfl, S5⟩
    go_wp2
    go_end0
    refine ⟨rfl, ?_⟩
    have := S5.from hbw hB
    rw [show acc ++ 92 :: 120 :: hexL n = acc ++ [92, 120] ++ hexL n by simp]
    exact this
end Go.Proofs.YtckjededijgjgaaDoor.Qt
namespace Go.Proofs.YtckjededijgjgaaDoor.Qt
open Go.RowKit Go.Shelf
open Go.Proofs.YtckjededijgjgaaDoor.Pc (P4 encP pieces Kp cut_in cut_stops_q Ofs kp_t kp_b kp_others pcF)
open Go.Proofs.YtckjededijgjgaaDoor.Nm (cellsP box_turn box_below others_below bld_turn others_of boxed_of)
open Go.Proofs.YtckjededijgjgaaDoor.Hx (hexL Tabs hexL_len16 hexL_len)
open Go.Proofs.YtckjededijgjgaaDoor.Enc (Spans plainF)
attribute [local go_sem] Oper.semAt_some
set_option linter.unusedVariables false

/-- a piece's own bytes -/
def ownB (s : ByteArray) (x : P4) : ByteArray := s.extract x.2.1.toNat (x.2.1 + x.2.2.1).toNat
/-- what Quote prints of pieces -/
def qS (s : ByteArray) : List P4 → List UInt8
  | [] => []
  | x :: t => prn (ownB s x).data.toList x.1 x.2.2.2 ++ qS s t
theorem qS_snoc (s : ByteArray) (l : List P4) (x : P4) : qS s (l ++ [x]) = qS s l ++ prn (ownB s x).data.toList x.1 x.2.2.2 := by
  induction l with
  | nil => simp [qS]
  | cons y t ih => rw [List.cons_append, qS, ih, qS, List.append_assoc]
def quoteL (s : ByteArray) : List UInt8 := 34 :: qS s (pieces s) ++ [34]

theorem of_place {s : ByteArray} {x : P4} (h : Ofs s x) : ∃ pos k : Nat, x.2.1 = (pos : Int) ∧ x.2.2.1 = (k : Int) ∧ 1 ≤ k ∧ k ≤ 4 ∧ pos + k ≤ s.size ∧ 0 ≤ x.1 ∧ x.1 ≤ 1114111 := by
  obtain ⟨pos, hp, rfl⟩ := h
  have hr := Wd.pcF_range s pos
  have hw := Pc.width_le s pos hp
  refine ⟨pos, (Utf8.decode s pos).2, ?_, ?_, hw.1, hw.2.1, hw.2.2, hr.1, hr.2⟩
  · unfold Pc.pcF; split <;> rfl
  · unfold Pc.pcF
    split
    · rename_i h; rw [h]; rfl
    · rfl
theorem prn_len (own : List UInt8) (r : Int) (br : Bool) (ho : own.length ≤ 4) (h0 : 0 ≤ r) (h1 : r ≤ 1114111) : (prn own r br).length ≤ 10 := by
  have hh : (hexL r.toNat).length ≤ 6 := (hexL_len 5 r.toNat (by have : (16 : Nat) ^ (5 + 1) = 16777216 := by decide
                                                                 omega)).2
  unfold prn
  repeat' split
  all_goals simp
  all_goals omega

theorem own_len {s : ByteArray} {x : P4} (h : Ofs s x) : (ownB s x).size ≤ 4 := by
  obtain ⟨pos, k, h1, h2, h3, h4, h5, _⟩ := of_place h
  unfold ownB
  rw [ByteArray.size_extract, h1, h2]
  omega
theorem qS_len {s : ByteArray} (pre : List {x : P4 // Ofs s x}) : (qS s (pre.map (·.1))).length ≤ 10 * pre.length := by
  induction pre with
  | nil => simp [qS]
  | cons y t ih =>
    obtain ⟨pos, k, h1, h2, h3, h4, h5, h6, h7⟩ := of_place y.2
    have ho : (ownB s y.1).data.toList.length ≤ 4 := by rw [Array.length_toList]; exact own_len y.2
    have := prn_len (ownB s y.1).data.toList y.1.1 y.1.2.2.2 ho h6 h7
    rw [List.map_cons, qS, List.length_append, List.length_cons]
    omega

/-- a slot: its value, if its operation has come up -/
def sel (l : Bool) (v : Value) : Value := if l then v else undef
theorem sel_t (v : Value) : sel true v = v := rfl
theorem sel_f (v : Value) : sel false v = undef := rfl

set_option maxRecDepth 100000 in
set_option maxHeartbeats 1000000 in
theorem quote_in (n : Nat) (hn : 4 ≤ n) (s : ByteArray) (hs : s.size ≤ 1048576) (w : World) (hT : Tabs w) (R off cap : Nat) (hS : Spans w R off cap) :
    CallsIn Fence.wide n Tryd.prog 25 #[.string s] w fun e W' => e = .returned (.string ⟨(quoteL s).toArray⟩) ∧ Below w.heap.size w W' := by
  have h1 : 1 ≤ n := by omega
  have mixed : Tryd.prog.follows .mixedOrders = true := by kernel_rfl
  have y0 := (Boxed.new w 9 (.string s)).alloc (.cells #[.pointer none, .slice none 0 0] 80)
  have hb0 : Lib.IsBuilderF 80 5 (w.heap.size + 1) (w.heap.size + 1) (Lib.byteCells []) ((w.alloc (.cells #[.string s] 9)).alloc (.cells #[.pointer none, .slice none 0 0] 80)) := by
    have := Lib.IsBuilderF.of (Lib.fresh_isBuilder 80 5 (w.alloc (.cells #[.string s] 9)))
    simp only [World.size_alloc] at this
    exact this
  have hB0 : Below w.heap.size w ((w.alloc (.cells #[.string s] 9)).alloc (.cells #[.pointer none, .slice none 0 0] 80)) := ((Below.refl _ w).alloc (Nat.le_refl _) _).alloc (by simp) _
  have hz0 : ((w.alloc (.cells #[.string s] 9)).alloc (.cells #[.pointer none, .slice none 0 0] 80)).heap.size = w.heap.size + 2 := by simp
  have S0 : Bs (w.heap.size + 1) (w.heap.size + 1) [] _ _ := Bs.start hb0 (by rw [hz0]; omega)
  refine callsIn_of_wp_marks Tryd.func25 rfl trivial ?_ rfl
  simp only [Tryd.ntmps25, List.size_toArray, List.length_cons, List.length_nil, Nat.reduceAdd, Nat.reduceSub, Array.replicate_succ, Array.replicate_zero, List.push_toArray, List.append_toArray, List.nil_append, List.cons_append]
  gi_wp2_with fail
  refine ⟨trivial, (callsIn_wide.2 (S0.byte 34 34 rfl (by simp))).mono ?_⟩
  rintro e W1 ⟨rfl, S1⟩
  have x0 := boxed_of S1.kept y0 (by decide) (by omega)
  have hsz1 : w.heap.size + 2 ≤ W1.heap.size := by rw [← hz0]; exact S1.bel.size
  have hB1 : Below w.heap.size w W1 := hB0.trans (S1.bel.mono (by omega))
  have k0 := x0.cell
  gi_wp2_with (refine ⟨trivial, ?_⟩; gi_at_call 50; refine (cut_in _ _ _).mono ?_; rintro e w' ⟨rfl, rfl⟩)
  have x0 := x0.alloc (.cells #[.string s] 9)
  have x1 := Boxed.new W1 9 (.string s)
  have xb := (S1.call ((Below.refl W1.heap.size W1).alloc (Nat.le_refl _) (.cells #[.string s] 9))).bld
  have hB3 := hB1.alloc hB1.size (.cells #[.string s] 9)
  have hsz3 : (W1.alloc (.cells #[.string s] 9)).heap.size = W1.heap.size + 1 := by simp
  obtain ⟨Bn, hBn⟩ : ∃ Bn, W1.heap.size = Bn := ⟨_, rfl⟩
  obtain ⟨W0, hW0⟩ : ∃ W0, W1.alloc (.cells #[.string s] 9) = W0 := ⟨_, rfl⟩
  rw [hBn] at x1 hsz1 hsz3 ⊢
  rw [hW0] at x0 x1 xb hB3 hsz3 ⊢
  clear hW0 k0 hB1 S1 hBn S0 hb0 hB0 hz0 y0
  refine wpIn_rangeFunc_ownH rfl h1 (gf := 89) (lb := #[.pointer (some ⟨Bn, 0, none⟩)]) rfl trivial (enters_of Tryd.func89 (by kernel_rfl) rfl)
    (cut_stops_q (n - 1) (by omega) Bn s (by omega) W0 x1) kp_t kp_b (Below.refl _ _) (fun _ => rfl)
    (fun pre W => ((Boxed W w.heap.size 9 (.string s) ∧ Boxed W Bn 9 (.string s)) ∧ Lib.IsBuilderF 80 5 (w.heap.size + 1) (w.heap.size + 1) (Lib.byteCells (34 :: qS s (pre.map (·.1)))) W) ∧ Below w.heap.size w W)
    (fun c pre W => False ∧ Below w.heap.size w W)
    (OwnFrom.and (Own.from (fun pre X Y row hs hg hr => ?_) _) (ownFrom_below (Nat.le_refl _) (by omega)))
    (fun c => OwnFrom.and (Own.from (fun pre X Y row hs hg hr => ?_) _) (ownFrom_below (Nat.le_refl _) (by omega)))
    ⟨⟨⟨x0, x1⟩, xb⟩, hB3⟩
    (fun x a' W => ∃ Bx, W.heap[Bx]? = some (.cells (cellsP x.1).toArray 55) ∧ a' = { tmps := #[.string s, .pointer (some ⟨w.heap.size, 0, none⟩), .string ⟨#[]⟩, .pointer (some ⟨w.heap.size + 1, 0, none⟩), .pointer (some ⟨Bx, 0, none⟩), .nilIface, .string s, .func (.func 89) #[] #[.pointer (some ⟨Bn, 0, none⟩)], encP x.1, undef, undef, undef, undef, undef, undef, undef, undef, undef, undef, undef, undef, undef], defers := [] })
    (fun x a' _ X Y row hs hg hr => by
      obtain ⟨Bx, h1, h2⟩ := hs
      refine ⟨Bx, (hg.block Bx (Array.getElem?_eq_some_iff.1 h1).1 (fun e => ?_)).trans h1, h2⟩
      obtain ⟨_, o, ho, hc⟩ := hr Bx e.symm
      rw [h1] at ho; cases ho; cases hc)
    ?assign ?body ?done ?stop
  · obtain ⟨⟨y0, y1⟩, yb⟩ := hs
    exact ⟨⟨box_turn y0 hg hr, box_turn y1 hg hr⟩, bld_turn yb hg hr⟩
  · exact hs.elim
  case assign =>
    rintro l pre x W K ⟨⟨⟨y0, y1⟩, yb⟩, hB1⟩ hK
    simp only [encP]
    gi_wp2
    exact hK _ _ ((KeepsOthers.alloc _ _).from _) (kp_others (KeepsOthers.alloc _ _) (fun v hv => hv.alloc _)) ⟨⟨⟨y0.alloc _, y1.alloc _⟩, yb.alloc _⟩, hB1.alloc hB1.size _⟩ ⟨W.heap.size, World.alloc_heap_new W _, rfl⟩
  case body =>
    rintro l pre x a' W hl hq ⟨⟨⟨y0, y1⟩, yb⟩, hB1⟩ ⟨Bx, hX, rfl⟩ hlt
    obtain ⟨pos, k, hpl, hsz, hk1, hk4, hpk, hr0, hr1⟩ := of_place x.2
    have hol := own_len x.2
    have hql := qS_len pre
    have hsn := qS_snoc s (pre.map (·.1)) x.1
    have hmap : (pre ++ [x]).map (·.1) = pre.map (·.1) ++ [x.1] := by simp
    have HM : Hid (34 :: qS s ((pre ++ [x]).map (·.1)) = (34 :: qS s (pre.map (·.1))) ++ prn (ownB s x.1).data.toList x.1.1 x.1.2.2.2) := by
      show _ = _
      rw [hmap, hsn]; rfl
    have hown : ownB s x.1 = s.extract pos (pos + k) := by
      unfold ownB
      rw [hpl, hsz]
      congr 1
    have hwW : w.heap.size + 1 ≤ W.heap.size := by have := y1.lt; omega
    have C := quotePiece_any (w.heap.size + 1) (w.heap.size + 1) (34 :: qS s (pre.map (·.1))) (ownB s x.1) x.1 hr0 hr1 W.drew yb hwW (by have := hT.five; omega) (tabs_below hT hB1.drew hT.five) R off cap (hS.below hB1.drew (Nat.le_refl _)) (by simp; omega) hol
    generalize hAC : 34 :: qS s (pre.map (·.1)) ++ prn (ownB s x.1).data.toList x.1.1 x.1.2.2.2 = AC at *
    rw [hown] at C
    clear hsn hmap hol hown hql
    have p0 : W.cell? ⟨Bx, 0, none⟩ = some (.int .i32 x.1.1) := by simp [World.cell?, hX]
    have p1 : W.cell? ⟨Bx, 1, none⟩ = some (.int .i64 (pos : Int)) := by rw [← hpl]; simp [World.cell?, hX]
    have p2 : W.cell? ⟨Bx, 2, none⟩ = some (.int .i64 (k : Int)) := by rw [← hsz]; simp [World.cell?, hX]
    have p3 : W.cell? ⟨Bx, 3, none⟩ = some (.bool x.1.2.2.2) := by simp [World.cell?, hX]
    have k0 := y0.cell
    have hpkI : (pos : Int) + (k : Int) ≤ (s.size : Int) := by omega
    have hsI : (s.size : Int) ≤ 1048576 := by omega
    have C' : Calls Tryd.prog 55 #[.pointer (some ⟨w.heap.size + 1, 0, none⟩), .string (s.extract pos (pos + k)), .agg #[.int .i32 x.1.1, .int .i64 (pos : Int), .int .i64 (k : Int), .bool x.1.2.2.2]] W.drew fun e w' => e = .returned (.tuple #[]) ∧ Bs (w.heap.size + 1) (w.heap.size + 1) AC W.drew w' := by
      rw [← hpl, ← hsz] ; exact C
    clear C hAC
    have hwr : IntKind.i64.wrap ((pos : Int) + (k : Int)) = (pos : Int) + (k : Int) := by rw [IntKind.wrap_i64]; omega
    have hsl0 : ∀ W, (Instr.slice 9 (.string s) (some (.int .i64 (pos : Int))) (some (.int .i64 ((pos : Int) + (k : Int)))) none).run Tryd.prog W = .ok (.string (s.extract pos (pos + k))) W := fun W => by
      rw [run_slice_string W 9 s .i64 .i64 _ _ Tryd.underlying9 (by omega) (by omega) (by omega), show ((pos : Int)).toNat = pos by omega, show ((pos : Int) + (k : Int)).toNat = pos + k by omega]
    have hsl : ∀ W, (Instr.slice 9 (.string s) (some (.int .i64 (pos : Int))) (some (.int .i64 (IntKind.i64.wrap ((pos : Int) + (k : Int))))) none).run Tryd.prog W = .ok (.string (s.extract pos (pos + k))) W := fun W => by
      rw [hwr]; exact hsl0 W
    clear hwr
    gi_wp2_with fail
    obtain ⟨rr, hrr⟩ : ∃ rr, x.1.1 = rr := ⟨_, rfl⟩
    obtain ⟨bb, hbb⟩ : ∃ bb, x.1.2.2.2 = bb := ⟨_, rfl⟩
    have hen : encP x.1 = .agg #[.int .i32 rr, .int .i64 (pos : Int), .int .i64 (k : Int), .bool bb] := by unfold Pc.encP; rw [hrr, hpl, hsz, hbb]
    rw [hrr] at p0 C'
    rw [hbb] at p3 C'
    rw [hen]
    clear hen hrr hbb hl hq hX
    refine wpIn_region_any (by assumption) ?_
    change wpAnyIn _ _ _ _ _ _ _ _ _ (World.drew _)
    have d0 : W.drew.cell? ⟨Bx, 0, none⟩ = some (.int .i32 rr) := p0
    have d1 : W.drew.cell? ⟨Bx, 1, none⟩ = some (.int .i64 (pos : Int)) := p1
    have d2 : W.drew.cell? ⟨Bx, 2, none⟩ = some (.int .i64 (k : Int)) := p2
    have d3 : W.drew.cell? ⟨Bx, 3, none⟩ = some (.bool bb) := p3
    have dk : W.drew.cell? ⟨w.heap.size, 0, none⟩ = some (.string s) := k0
    refine Ord.wpAnyIn_inv (Inv := fun listed a w' => ∃ l0 l1 l2 l3 l4 l5 l6 l7 l8 l9 l10 : Bool, listed = #[l0, l1, l2, l3, l4, l5, l6, l7, l8, l9, l10] ∧
      a = { tmps := #[.string s, .pointer (some ⟨w.heap.size, 0, none⟩), .string ⟨#[]⟩, .pointer (some ⟨w.heap.size + 1, 0, none⟩), .pointer (some ⟨Bx, 0, none⟩), .nilIface, .string s, .func (.func 89) #[] #[.pointer (some ⟨Bn, 0, none⟩)], .agg #[.int .i32 rr, .int .i64 (pos : Int), .int .i64 (k : Int), .bool bb],
        sel l0 (.string s), sel l1 (.pointer (some ⟨Bx, 1, none⟩)), sel l2 (.int .i64 (pos : Int)), sel l3 (.pointer (some ⟨Bx, 1, none⟩)), sel l4 (.int .i64 (pos : Int)), sel l5 (.pointer (some ⟨Bx, 2, none⟩)), sel l6 (.int .i64 (k : Int)), sel l7 (.int .i64 (IntKind.i64.wrap ((pos : Int) + (k : Int)))), sel l8 (.string (s.extract pos (pos + k))), sel l9 (.agg #[.int .i32 rr, .int .i64 (pos : Int), .int .i64 (k : Int), .bool bb]), sel l10 (.tuple #[]), undef, undef], defers := [] } ∧
      (l2 = true → l1 = true) ∧ (l4 = true → l3 = true) ∧ (l6 = true → l5 = true) ∧ (l7 = true → l4 = true ∧ l6 = true) ∧ (l8 = true → l0 = true ∧ l2 = true ∧ l7 = true) ∧ (l10 = true → l8 = true ∧ l9 = true) ∧
      (l10 = false → w' = W.drew) ∧ (l10 = true → Bs (w.heap.size + 1) (w.heap.size + 1) AC W.drew w')) ?step ?fin _ _ _ _ ?start ?count
    case start => exact ⟨false, false, false, false, false, false, false, false, false, false, false, rfl, rfl, by simp, by simp, by simp, by simp, by simp, by simp, fun _ => rfl, by simp⟩
    case count => decide
    case step =>
      rintro listed a w' i ⟨l0, l1, l2, l3, l4, l5, l6, l7, l8, l9, l10, rfl, rfl, c2, c4, c6, c7, c8, c10, hw0, hw1⟩ hi
      obtain ⟨hlt, hb⟩ := Ord.mem_ready hi
      rcases Ord.lt_cases11 hlt with rfl | rfl | rfl | rfl | rfl | rfl | rfl | rfl | rfl | rfl | rfl
      all_goals simp [Region.binds] at hb
      · obtain rfl := hb
        obtain rfl : l10 = false := by cases l10 <;> simp_all
        obtain rfl := hw0 rfl
        refine wpOpIn_step rfl (fun K hK => ?_)
        simp only [sel_f]
        go_simp
        refine hK _ _ ?_
        exact ⟨true, _, _, _, _, _, _, _, _, _, false, rfl, rfl, by simp_all, by simp_all, by simp_all, by simp_all, by simp_all, by simp, fun _ => rfl, by simp⟩
      · obtain rfl := hb
        obtain rfl : l10 = false := by cases l10 <;> simp_all
        obtain rfl := hw0 rfl
        refine wpOpIn_step rfl (fun K hK => ?_)
        simp only [sel_f]
        go_simp
        refine hK _ _ ?_
        exact ⟨_, true, _, _, _, _, _, _, _, _, false, rfl, rfl, by simp_all, by simp_all, by simp_all, by simp_all, by simp_all, by simp, fun _ => rfl, by simp⟩
      · obtain ⟨rfl, rfl⟩ := hb
        obtain rfl : l10 = false := by cases l10 <;> simp_all
        obtain rfl := hw0 rfl
        refine wpOpIn_step rfl (fun K hK => ?_)
        simp only [sel_t, sel_f]
        go_simp
        refine hK _ _ ?_
        exact ⟨_, true, true, _, _, _, _, _, _, _, false, rfl, rfl, by simp_all, by simp_all, by simp_all, by simp_all, by simp_all, by simp, fun _ => rfl, by simp⟩
      · obtain rfl := hb
        obtain rfl : l10 = false := by cases l10 <;> simp_all
        obtain rfl := hw0 rfl
        refine wpOpIn_step rfl (fun K hK => ?_)
        simp only [sel_f]
        go_simp
        refine hK _ _ ?_
        exact ⟨_, _, _, true, _, _, _, _, _, _, false, rfl, rfl, by simp_all, by simp_all, by simp_all, by simp_all, by simp_all, by simp, fun _ => rfl, by simp⟩
      · obtain ⟨rfl, rfl⟩ := hb
        obtain rfl : l10 = false := by cases l10 <;> simp_all
        obtain rfl := hw0 rfl
        refine wpOpIn_step rfl (fun K hK => ?_)
        simp only [sel_t, sel_f]
        go_simp
        refine hK _ _ ?_
        exact ⟨_, _, _, true, true, _, _, _, _, _, false, rfl, rfl, by simp_all, by simp_all, by simp_all, by simp_all, by simp_all, by simp, fun _ => rfl, by simp⟩
      · obtain rfl := hb
        obtain rfl : l10 = false := by cases l10 <;> simp_all
        obtain rfl := hw0 rfl
        refine wpOpIn_step rfl (fun K hK => ?_)
        simp only [sel_f]
        go_simp
        refine hK _ _ ?_
        exact ⟨_, _, _, _, _, true, _, _, _, _, false, rfl, rfl, by simp_all, by simp_all, by simp_all, by simp_all, by simp_all, by simp, fun _ => rfl, by simp⟩
      · obtain ⟨rfl, rfl⟩ := hb
        obtain rfl : l10 = false := by cases l10 <;> simp_all
        obtain rfl := hw0 rfl
        refine wpOpIn_step rfl (fun K hK => ?_)
        simp only [sel_t, sel_f]
        go_simp
        refine hK _ _ ?_
        exact ⟨_, _, _, _, _, true, true, _, _, _, false, rfl, rfl, by simp_all, by simp_all, by simp_all, by simp_all, by simp_all, by simp, fun _ => rfl, by simp⟩
      · obtain ⟨rfl, rfl, rfl⟩ := hb
        obtain rfl : l10 = false := by cases l10 <;> simp_all
        obtain rfl := hw0 rfl
        obtain rfl := c4 rfl
        obtain rfl := c6 rfl
        refine wpOpIn_step rfl (fun K hK => ?_)
        simp only [sel_t, sel_f]
        go_simp
        refine hK _ _ ?_
        exact ⟨_, _, _, true, true, true, true, true, _, _, false, rfl, rfl, by simp_all, by simp_all, by simp_all, by simp_all, by simp_all, by simp, fun _ => rfl, by simp⟩
      · obtain ⟨rfl, rfl, rfl, rfl⟩ := hb
        obtain rfl : l10 = false := by cases l10 <;> simp_all
        obtain rfl := hw0 rfl
        obtain ⟨rfl, rfl⟩ := c7 rfl
        obtain rfl := c2 rfl
        obtain rfl := c4 rfl
        obtain rfl := c6 rfl
        refine wpOpIn_step rfl (fun K hK => ?_)
        simp only [sel_t, sel_f]
        go_simp
        refine hK _ _ ?_
        exact ⟨true, true, true, true, true, true, true, true, true, _, false, rfl, rfl, by simp_all, by simp_all, by simp_all, by simp_all, by simp_all, by simp, fun _ => rfl, by simp⟩
      · obtain rfl := hb
        obtain rfl : l10 = false := by cases l10 <;> simp_all
        obtain rfl := hw0 rfl
        refine wpOpIn_step rfl (fun K hK => ?_)
        simp only [sel_f]
        go_simp
        refine hK _ _ ?_
        exact ⟨_, _, _, _, _, _, _, _, _, true, false, rfl, rfl, by simp_all, by simp_all, by simp_all, by simp_all, by simp_all, by simp, fun _ => rfl, by simp⟩
      · obtain ⟨rfl, rfl, rfl⟩ := hb
        obtain rfl := hw0 rfl
        obtain ⟨rfl, rfl, rfl⟩ := c8 rfl
        obtain ⟨rfl, rfl⟩ := c7 rfl
        obtain rfl := c2 rfl
        obtain rfl := c4 rfl
        obtain rfl := c6 rfl
        refine wpOpIn_step rfl (fun K hK => ?_)
        simp only [sel_t, sel_f]
        go_simp
        refine ⟨trivial, fun _ => by omega, (CallsIn.inRound l (callsIn_wide.2 C')).mono ?_⟩
        rintro e W1 ⟨rfl, S2⟩
        refine hK _ _ ?_
        exact ⟨true, true, true, true, true, true, true, true, true, true, true, rfl, rfl, by simp, by simp, by simp, by simp, by simp, by simp, by simp, fun _ => S2⟩
    case fin =>
      rintro listed a w' ⟨l0, l1, l2, l3, l4, l5, l6, l7, l8, l9, l10, rfl, rfl, c2, c4, c6, c7, c8, c10, hw0, hw1⟩ hi
      have hall : l0 = true ∧ l1 = true ∧ l2 = true ∧ l3 = true ∧ l4 = true ∧ l5 = true ∧ l6 = true ∧ l7 = true ∧ l8 = true ∧ l9 = true ∧ l10 = true := by
        have hx := fun i => Ord.not_ready hi (i := i)
        have e0 := hx 0 (by simp)
        have e1 := hx 1 (by simp)
        have e2 := hx 2 (by simp)
        have e3 := hx 3 (by simp)
        have e4 := hx 4 (by simp)
        have e5 := hx 5 (by simp)
        have e6 := hx 6 (by simp)
        have e7 := hx 7 (by simp)
        have e8 := hx 8 (by simp)
        have e9 := hx 9 (by simp)
        have e10 := hx 10 (by simp)
        simp [Region.binds] at e0 e1 e2 e3 e4 e5 e6 e7 e8 e9 e10
        simp_all
      obtain ⟨rfl, rfl, rfl, rfl, rfl, rfl, rfl, rfl, rfl, rfl, rfl⟩ := hall
      have S2 := hw1 rfl
      clear c2 c4 c6 c7 c8 c10 hw0 hw1 hi
      simp only [sel_t]
      have j0 := boxed_of S2.kept (show Boxed W.drew w.heap.size 9 (.string s) from y0) (by decide) (by omega)
      have j1 := boxed_of S2.kept (show Boxed W.drew Bn 9 (.string s) from y1) (by decide) (by omega)
      have hko : KeepsOthers W w' := (KeepsOthers.drew W).trans (others_of S2.kept S2.bel.size yb)
      exact ⟨hko.from _, kp_others hko (fun u hu => boxed_of S2.kept (show Boxed W.drew Bn 9 u from hu) (by decide) (by omega)), ⟨⟨j0, j1⟩, by rw [HM.out]; exact S2.bld⟩, hB1.drew.trans (S2.bel.mono (by omega))⟩
  case done =>
    rintro D ys W hD hys ⟨⟨⟨y0, y1⟩, yb⟩, hB1⟩ hK
    have hys' : ys.map (·.1) = pieces s := hys
    rw [hys'] at yb
    have hwW : w.heap.size + 1 ≤ W.heap.size := by have := y1.lt; omega
    have S0 : Bs (w.heap.size + 1) (w.heap.size + 1) (34 :: qS s (pieces s)) W W := Bs.start yb hwW
    have hql := qS_len ys
    rw [hys'] at hql
    have hyl : ys.length ≤ s.size := by
      have h1 := congrArg List.length hys'
      have h2 := Wd.pieces_len s
      rw [List.length_map] at h1
      omega
    gi_wp2_with fail
    refine ⟨trivial, (callsIn_wide.2 (S0.byte 34 34 rfl (by simp; omega))).mono ?_⟩
    rintro e W1 ⟨rfl, S1⟩
    have hK1 := (others_of S1.kept S1.bel.size yb).same D _ hK rfl
    have hB2 : Below w.heap.size w W1 := hB1.trans (S1.bel.mono (by omega))
    gi_wp2_with fail
    refine ⟨trivial, (callsIn_wide.2 (Bu.string _ _ (34 :: qS s (pieces s) ++ [34]) W1 S1.bld S1.room)).mono ?_⟩
    rintro e W2 ⟨rfl, hb2, hbl2, hk2⟩
    have hK2 := (others_of hk2 hbl2.size S1.bld).same D _ hK1 rfl
    have hB3 : Below w.heap.size w W2 := hB2.trans (hbl2.mono (by omega))
    gi_wp2
    refine ⟨by simp, .inl ⟨_, _, rfl, run_takeDeferred hK2, ?_⟩⟩
    refine ⟨.string ⟨(34 :: qS s (pieces s) ++ [34]).toArray⟩, ?_, rfl, hB3.trans (belowK_b (w := w) (Nat.le_refl _) W2 D _ _ (by omega) hK2 rfl rfl)⟩
    simp [results, Tryd.results25, go_sem]
  case stop =>
    rintro D c pre W hD hpre ⟨hf, hB1⟩ hK
    exact hf.elim

/-- what Quote answers -/
theorem quote_any (s : ByteArray) (hs : s.size ≤ 1048576) (w : World) (hT : Tabs w) (R off cap : Nat) (hS : Spans w R off cap) :
    Calls Tryd.prog 25 #[.string s] w fun e W' => e = .returned (.string ⟨(quoteL s).toArray⟩) ∧ Below w.heap.size w W' :=
  (callsIn_wide (n := 4)).1 (quote_in 4 (by omega) s hs w hT R off cap hS)
end Go.Proofs.YtckjededijgjgaaDoor.Qt
