import Derived.Test.YtckjededijgjgaaDoorHxB
import Derived.Test.YtckjededijgjgaaDoorDgA
import Derived.Test.YtckjededijgjgaaDoorNmC
import Derived.Test.YtckjededijgjgaaDoorEncB
namespace Go.Proofs.YtckjededijgjgaaDoor.Qt
open Go.RowKit Go.Shelf
open Go.Proofs.YtckjededijgjgaaDoor.Pc (P4 encP)
open Go.Proofs.YtckjededijgjgaaDoor.Hx (hexL Tabs fmtInt_16 hexL_len16)
open Go.Proofs.YtckjededijgjgaaDoor.Enc (Spans plainF plain_any)
set_option linter.unusedVariables false

theorem hide {p : Prop} (h : p) : Hid p := h
/-- what is printed of a piece -/
def prn (own : List UInt8) (r : Int) (br : Bool) : List UInt8 :=
  if br = true then [92, 120] ++ hexL r.toNat
  else if r = 34 then [92, 34] else if r = 92 then [92, 92] else if r = 10 then [92, 110] else if r = 13 then [92, 114] else if r = 9 then [92, 116]
  else if plainF r = true then own else [92, 117, 123] ++ hexL r.toNat ++ [125]

theorem tabs_below {B : Nat} {w w' : World} (h : Tabs w) (hb : Below B w w') (h5 : 5 < B) : Tabs w' := by
  obtain ⟨h1, h2, h3⟩ := h
  refine ⟨?_, ?_, by have := hb.size; omega⟩
  · unfold Lib.TabIs World.var? at h1 ⊢
    have g2 : Tryd.prog.globalNamed "internal/strconv.uint64pow10" = some 2 := by kernel_rfl
    rw [g2] at h1 ⊢
    simp only [Option.bind_some] at h1 ⊢
    rw [hb.block 2 (by omega)]
    exact h1
  · unfold World.cell? at h2 ⊢
    rw [hb.block 5 h5]
    exact h2
theorem kept_below {b : Nat} {W W' : World} (hb : Below W.heap.size W W') : Lib.OthersKept 5 (some b) W W' := fun k o hk _ _ => (hb.block k (Array.getElem?_eq_some_iff.1 hk).1).trans hk

/-- the builder holds acc; all else is as it was -/
structure Bs (B b : Nat) (acc : List UInt8) (w0 w : World) : Prop where
  bld : Lib.IsBuilderF 80 5 B b (Lib.byteCells acc) w
  bel : Below B w0 w
  kept : Lib.OthersKept 5 (some b) w0 w
  base : B ≤ w0.heap.size

theorem Bs.room {B b : Nat} {acc : List UInt8} {w0 w : World} (h : Bs B b acc w0 w) : B ≤ w.heap.size := Nat.le_trans h.base h.bel.size
theorem Bs.call {B b : Nat} {acc : List UInt8} {w0 w w' : World} (h : Bs B b acc w0 w) (hb : Below w.heap.size w w') : Bs B b acc w0 w' :=
  ⟨Nm.bld_below h.bld hb, h.bel.trans (hb.mono h.room), h.kept.trans (kept_below hb), h.base⟩
theorem Bs.str {B b : Nat} {acc : List UInt8} {w0 w : World} (h : Bs B b acc w0 w) (s : ByteArray) (hl : acc.length + s.size ≤ 140737488355328) :
    Calls Tryd.prog 61 #[.pointer (some ⟨b, 0, none⟩), .string s] w fun e w' => e = .returned (.tuple #[.int .i64 s.size, .nilIface]) ∧ Bs B b (acc ++ s.data.toList) w0 w' := by
  refine (Bu.writeString B b _ s w h.bld (by rw [Lib.byteCells_length]; exact hl) h.room).mono ?_
  rintro e w' ⟨rfl, h1, h2, h3⟩
  refine ⟨rfl, ?_, h.bel.trans h2, h.kept.trans h3, h.base⟩
  rw [Lib.byteCells_append]
  exact .inr h1
theorem Bs.byte {B b : Nat} {acc : List UInt8} {w0 w : World} (h : Bs B b acc w0 w) (c : UInt8) (z : Int) (hz : z = (c.toNat : Int)) (hl : acc.length + 1 ≤ 140737488355328) :
    Calls Tryd.prog 54 #[.pointer (some ⟨b, 0, none⟩), .int .u8 z] w fun e w' => e = .returned .nilIface ∧ Bs B b (acc ++ [c]) w0 w' := by
  subst hz
  refine (Bu.writeByte B b _ (c.toNat : Int) w h.bld (by rw [Lib.byteCells_length]; exact hl) h.room).mono ?_
  rintro e w' ⟨rfl, h1, h2, h3⟩
  refine ⟨rfl, ?_, h.bel.trans h2, h.kept.trans h3, h.base⟩
  rw [Lib.byteCells_append]
  exact .inr h1

theorem Bs.start {B b : Nat} {acc : List UInt8} {w : World} (h : Lib.IsBuilderF 80 5 B b (Lib.byteCells acc) w) (hB : B ≤ w.heap.size) : Bs B b acc w w := ⟨h, Below.refl _ _, Lib.OthersKept.refl _ _ _, hB⟩
theorem Bs.from {B b : Nat} {acc : List UInt8} {w wa w' : World} (h : Bs B b acc wa w') (hb : Below w.heap.size w wa) (hB : B ≤ w.heap.size) : Bs B b acc w w' :=
  ⟨h.bld, (hb.mono hB).trans h.bel, (kept_below hb).trans h.kept, hB⟩
/-- a piece's cells, still there -/
theorem Bs.piece {B b k : Nat} {acc : List UInt8} {wa w : World} {c : Array Value} (h : Bs B b acc wa w) (hk : wa.heap[k]? = some (.cells c 55 (0, 0))) (hne : k ≠ b) : w.heap[k]? = some (.cells c 55 (0, 0)) :=
  h.kept k _ hk (fun e => hne (by cases e; rfl)) (fun c fz e => by cases e)

set_option maxHeartbeats 1000000 in
theorem quotePiece_any (B b : Nat) (acc : List UInt8) (own : ByteArray) (x : P4) (h0 : 0 ≤ x.1) (h1 : x.1 ≤ 1114111) (w : World) (hb : Lib.IsBuilderF 80 5 B b (Lib.byteCells acc) w) (hB : B ≤ w.heap.size) (h5 : 5 < B)
    (hT : Tabs w) (R off cap : Nat) (hS : Spans w R off cap) (hl : acc.length ≤ 100000000) (ho : own.size ≤ 4) :
    Calls Tryd.prog 55 #[.pointer (some ⟨b, 0, none⟩), .string own, encP x] w fun e w' => e = .returned (.tuple #[]) ∧ Bs B b (acc ++ prn own.data.toList x.1 x.2.2.2) w w' := by
  obtain ⟨r, pl, sz, br⟩ := x
  simp only at h0 h1 ⊢
  obtain ⟨n, hn⟩ : ∃ n : Nat, r = (n : Int) := ⟨r.toNat, by omega⟩
  have hnb : n ≤ 1114111 := by omega
  have HN := hide hn
  clear hn
  have hbw := (Below.refl w.heap.size w).alloc (Nat.le_refl _) (.cells #[.int .i32 r, .int .i64 pl, .int .i64 sz, .bool br] 55)
  have hp : (w.alloc (.cells #[.int .i32 r, .int .i64 pl, .int .i64 sz, .bool br] 55)).heap[w.heap.size]? = some (.cells #[.int .i32 r, .int .i64 pl, .int .i64 sz, .bool br] 55 (0, 0)) := World.alloc_heap_new w _
  have S1 := Bs.start (Nm.bld_below hb hbw) (by have := hbw.size; omega)
  have hTA := tabs_below hT (hbw.mono hB) h5
  have hSA := hS.below hbw (Nat.le_refl _)
  have hne : w.heap.size ≠ b := by
    obtain ⟨c, fz, hc⟩ := Nm.bld_block hb
    have := (Array.getElem?_eq_some_iff.1 hc).1
    omega
  show Calls Tryd.prog 55 #[.pointer (some ⟨b, 0, none⟩), .string own, .agg #[.int .i32 r, .int .i64 pl, .int .i64 sz, .bool br]] w _
  cases br
  · by_cases c1 : r = 34
    · have e : prn own.data.toList r false = [92, 34] := by unfold prn; rw [if_neg (by simp), if_pos c1]
      rw [e]
      subst c1
      go_enter Tryd.func55, Tryd.ntmps55
      go_wp2_with fail
      refine (S1.str ⟨#[92, 34]⟩ (by show acc.length + 2 ≤ _; omega)).mono ?_
      rintro e w1 ⟨rfl, S2⟩
      go_wp2
      go_end0
      exact ⟨rfl, S2.from hbw hB⟩
    by_cases c2 : r = 92
    · have e : prn own.data.toList r false = [92, 92] := by unfold prn; rw [if_neg (by simp), if_neg c1, if_pos c2]
      rw [e]
      subst c2
      go_enter Tryd.func55, Tryd.ntmps55
      go_wp2_with fail
      refine (S1.str ⟨#[92, 92]⟩ (by show acc.length + 2 ≤ _; omega)).mono ?_
      rintro e w1 ⟨rfl, S2⟩
      go_wp2
      go_end0
      exact ⟨rfl, S2.from hbw hB⟩
    by_cases c3 : r = 10
    · have e : prn own.data.toList r false = [92, 110] := by unfold prn; rw [if_neg (by simp), if_neg c1, if_neg c2, if_pos c3]
      rw [e]
      subst c3
      go_enter Tryd.func55, Tryd.ntmps55
      go_wp2_with fail
      refine (S1.str ⟨#[92, 110]⟩ (by show acc.length + 2 ≤ _; omega)).mono ?_
      rintro e w1 ⟨rfl, S2⟩
      go_wp2
      go_end0
      exact ⟨rfl, S2.from hbw hB⟩
    by_cases c4 : r = 13
    · have e : prn own.data.toList r false = [92, 114] := by unfold prn; rw [if_neg (by simp), if_neg c1, if_neg c2, if_neg c3, if_pos c4]
      rw [e]
      subst c4
      go_enter Tryd.func55, Tryd.ntmps55
      go_wp2_with fail
      refine (S1.str ⟨#[92, 114]⟩ (by show acc.length + 2 ≤ _; omega)).mono ?_
      rintro e w1 ⟨rfl, S2⟩
      go_wp2
      go_end0
      exact ⟨rfl, S2.from hbw hB⟩
    by_cases c5 : r = 9
    · have e : prn own.data.toList r false = [92, 116] := by unfold prn; rw [if_neg (by simp), if_neg c1, if_neg c2, if_neg c3, if_neg c4, if_pos c5]
      rw [e]
      subst c5
      go_enter Tryd.func55, Tryd.ntmps55
      go_wp2_with fail
      refine (S1.str ⟨#[92, 116]⟩ (by show acc.length + 2 ≤ _; omega)).mono ?_
      rintro e w1 ⟨rfl, S2⟩
      go_wp2
      go_end0
      exact ⟨rfl, S2.from hbw hB⟩
    have q1 : (r == 34) = false := beq_eq_false_iff_ne.2 c1
    have q2 : (r == 92) = false := beq_eq_false_iff_ne.2 c2
    have q3 : (r == 10) = false := beq_eq_false_iff_ne.2 c3
    have q4 : (r == 13) = false := beq_eq_false_iff_ne.2 c4
    have q5 : (r == 9) = false := beq_eq_false_iff_ne.2 c5
    have PL := plain_any r _ R off cap hSA (by omega) (by omega)
    cases hpf : plainF r
    · have e : prn own.data.toList r false = [92, 117, 123] ++ hexL n ++ [125] := by unfold prn; rw [if_neg (by simp), if_neg c1, if_neg c2, if_neg c3, if_neg c4, if_neg c5, hpf, if_neg (by simp), HN.out]; rfl
      rw [e]
      rw [hpf] at PL
      clear e hpf c1 c2 c3 c4 c5
      have hl16 := hexL_len16 (Nat.lt_of_le_of_lt hnb (by decide))
      have hz : (⟨(hexL n).toArray⟩ : ByteArray).size = (hexL n).length := by show (hexL n).toArray.size = _; simp
      go_enter Tryd.func55, Tryd.ntmps55
      go_wp2_with fail
      refine PL.mono ?_; rintro e w1 ⟨rfl, hb1⟩
      have S2 := S1.call hb1
      go_wp2_with fail
      refine (S2.str ⟨#[92, 117, 123]⟩ (by show acc.length + 3 ≤ _; omega)).mono ?_
      rintro e w2 ⟨rfl, S3⟩
      have p2 := S3.piece hp hne
      have k0 : w2.cell? ⟨w.heap.size, 0, none⟩ = some (.int .i32 r) := by simp [World.cell?, p2]
      have hT2 := tabs_below hTA S3.bel h5
      have FI := fmtInt_16 n (Nat.lt_of_le_of_lt hnb (by decide)) w2 hT2.bru hT2.five
      rw [← HN.out] at FI
      go_wp2_with fail
      refine FI.mono ?_; rintro e w3 ⟨rfl, hb3⟩
      have S4 := S3.call hb3
      go_wp2_with fail
      refine (S4.str ⟨(hexL n).toArray⟩ (by rw [hz]; simp; omega)).mono ?_
      rintro e w4 ⟨rfl, S5⟩
      go_wp2_with fail
      refine (S5.byte 125 125 rfl (by simp; omega)).mono ?_
      rintro e w5 ⟨rfl, S6⟩
      go_wp2
      go_end0
      refine ⟨rfl, ?_⟩
      have := S6.from hbw hB
      rw [show acc ++ 92 :: 117 :: 123 :: (hexL n ++ [125]) = acc ++ [92, 117, 123] ++ hexL n ++ [125] by simp]
      exact this
    · have e : prn own.data.toList r false = own.data.toList := by unfold prn; rw [if_neg (by simp), if_neg c1, if_neg c2, if_neg c3, if_neg c4, if_neg c5, hpf, if_pos rfl]
      rw [e]
      rw [hpf] at PL
      clear e hpf c1 c2 c3 c4 c5
      go_enter Tryd.func55, Tryd.ntmps55
      go_wp2_with fail
      refine PL.mono ?_; rintro e w1 ⟨rfl, hb1⟩
      have S2 := S1.call hb1
      go_wp2_with fail
      refine (S2.str own (by omega)).mono ?_
      rintro e w2 ⟨rfl, S3⟩
      go_wp2
      go_end0
      exact ⟨rfl, S3.from hbw hB⟩
  · have e : prn own.data.toList r true = [92, 120] ++ hexL n := by unfold prn; rw [if_pos rfl, HN.out]; rfl
    rw [e]
    clear e
    have hl16 := hexL_len16 (Nat.lt_of_le_of_lt hnb (by decide))
    have hz : (⟨(hexL n).toArray⟩ : ByteArray).size = (hexL n).length := by show (hexL n).toArray.size = _; simp
    go_enter Tryd.func55, Tryd.ntmps55
    go_wp2_with fail
    refine (S1.str ⟨#[92, 120]⟩ (by show acc.length + 2 ≤ _; omega)).mono ?_
    rintro e w2 ⟨rfl, S3⟩
    have p2 := S3.piece hp hne
    have k0 : w2.cell? ⟨w.heap.size, 0, none⟩ = some (.int .i32 r) := by simp [World.cell?, p2]
    have hT2 := tabs_below hTA S3.bel h5
    have FI := fmtInt_16 n (Nat.lt_of_le_of_lt hnb (by decide)) w2 hT2.bru hT2.five
    rw [← HN.out] at FI
    go_wp2_with fail
    refine FI.mono ?_; rintro e w3 ⟨rfl, hb3⟩
    have S4 := S3.call hb3
    go_wp2_with fail
    refine (S4.str ⟨(hexL n).toArray⟩ (by rw [hz]; simp; omega)).mono ?_
    rintro e w4 ⟨rfl, S5⟩
    go_wp2
    go_end0
    refine ⟨rfl, ?_⟩
    have := S5.from hbw hB
    rw [show acc ++ 92 :: 120 :: hexL n = acc ++ [92, 120] ++ hexL n by simp]
    exact this
end Go.Proofs.YtckjededijgjgaaDoor.Qt
