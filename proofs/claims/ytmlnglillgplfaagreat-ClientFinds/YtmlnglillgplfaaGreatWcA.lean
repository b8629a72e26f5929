import Derived.Test.YtmlnglillgplfaaGreatBs
namespace Go.Proofs.YtmlnglillgplfaaGreat.Cl
open Go.RowKit
set_option linter.unusedVariables false
/-- a slice as a value -/
structure Sl where
  a : Option Addr
  n : Nat
  c : Nat
def Sl.val (s : Sl) : Value := .slice s.a s.n s.c
def Sl.nil : Sl := ⟨none, 0, 0⟩
/-- a message -/
structure Mg where
  k : Int
  seq : Int
  key : Int
  hi : Int
  v : Sl
  o : Sl
  has : Bool
  of : Int
  st : Int
  host : Int
  gr : Int
  bo : Int
  ma : Int
  li : Int
  pa : Sl
  se : Sl
  py : Sl
def Mg.cells (m : Mg) : Array Value := #[.int .u8 m.k, .int .u64 m.seq, .int .u64 m.key, .int .u64 m.hi, m.v.val, m.o.val, .bool m.has, .int .u8 m.of, .int .u8 m.st, .int .u8 m.host, .int .u32 m.gr, .int .u32 m.bo, .int .u64 m.ma, .int .u8 m.li, m.pa.val, m.se.val, m.py.val]
/-- its numbers are of their types -/
structure Mg.Ok (m : Mg) : Prop where
  k : 0 ≤ m.k ∧ m.k < 256
  seq : 0 ≤ m.seq ∧ m.seq < 18446744073709551616
  key : 0 ≤ m.key ∧ m.key < 18446744073709551616
  hi : 0 ≤ m.hi ∧ m.hi < 18446744073709551616
  of : 0 ≤ m.of ∧ m.of < 256
  st : 0 ≤ m.st ∧ m.st < 256
  host : 0 ≤ m.host ∧ m.host < 256
  gr : 0 ≤ m.gr ∧ m.gr < 4294967296
  bo : 0 ≤ m.bo ∧ m.bo < 4294967296
  ma : 0 ≤ m.ma ∧ m.ma < 18446744073709551616
  li : 0 ≤ m.li ∧ m.li < 256
/-- a number field -/
def Mg.num (m : Mg) : Nat → Int
  | 0 => m.seq
  | 1 => m.key
  | 2 => m.hi
  | 3 => m.li
  | 4 => m.of
  | 5 => m.st
  | 6 => m.host
  | 7 => m.gr
  | 8 => m.bo
  | _ => m.ma
/-- without it -/
def Mg.clr (m : Mg) : Nat → Mg
  | 0 => { m with seq := 0 }
  | 1 => { m with key := 0 }
  | 2 => { m with hi := 0 }
  | 3 => { m with li := 0 }
  | 4 => { m with of := 0 }
  | 5 => { m with st := 0 }
  | 6 => { m with host := 0 }
  | 7 => { m with gr := 0 }
  | 8 => { m with bo := 0 }
  | _ => { m with ma := 0 }
def Blk (w : World) (b : Nat) (m : Mg) : Prop := w.heap[b]? = some (.cells m.cells 36 (0, 0))
theorem Blk.nu {w w' : World} {b : Nat} {m : Mg} (h : Blk w b m) (k : Kp Nu w w') : Blk w' b m := (k.block b (blk_lt h) (fun h => h)).trans h
theorem Blk.kp {w w' : World} {S : Nat → Prop} {b : Nat} {m : Mg} (h : Blk w b m) (k : Kp S w w') (hn : ¬ S b) : Blk w' b m := (k.block b (blk_lt h) hn).trans h
theorem Blk.at {w : World} {b : Nat} {m : Mg} (h : Blk w b m) (i : Nat) (v : Value) (hi : m.cells[i]? = some v) : w.cell? ⟨b, i, none⟩ = some v := cellAt h i hi
theorem Blk.free {w : World} {b : Nat} {m : Mg} (h : Blk w b m) (i : Nat) : w.frozen? ⟨b, i, none⟩ = false := free3 h i
theorem wrapU {x : Int} (h : 0 ≤ x ∧ x < 256) : IntKind.u64.wrap x = x := by
  obtain ⟨h0, h1⟩ := h
  simp only [IntKind.wrap, IntKind.signed, IntKind.bits]
  first | omega | (simp; omega)
theorem wrapV {x : Int} (h : 0 ≤ x ∧ x < 4294967296) : IntKind.u64.wrap x = x := by
  obtain ⟨h0, h1⟩ := h
  simp only [IntKind.wrap, IntKind.signed, IntKind.bits]
  first | omega | (simp; omega)
set_option maxRecDepth 100000 in
set_option maxHeartbeats 1000000 in
theorem get_any {w : World} {b : Nat} {m : Mg} (h : Blk w b m) (ok : m.Ok) (n : Nat) (hn : n ≤ 9) : Calls Tryz.prog 116 #[.int .i64 (n : Int), .pointer (some ⟨b, 0, none⟩)] w fun e w' => e = .returned (.int .u64 (m.num n)) ∧ w' = w := by
  have c_seq := h.at 1 (.int .u64 m.seq) rfl
  have c_key := h.at 2 (.int .u64 m.key) rfl
  have c_hi := h.at 3 (.int .u64 m.hi) rfl
  have c_li := h.at 13 (.int .u8 m.li) rfl
  have c_of := h.at 7 (.int .u8 m.of) rfl
  have c_st := h.at 8 (.int .u8 m.st) rfl
  have c_host := h.at 9 (.int .u8 m.host) rfl
  have c_gr := h.at 10 (.int .u32 m.gr) rfl
  have c_bo := h.at 11 (.int .u32 m.bo) rfl
  have c_ma := h.at 12 (.int .u64 m.ma) rfl
  have e_li := wrapU ok.li
  have e_of := wrapU ok.of
  have e_st := wrapU ok.st
  have e_host := wrapU ok.host
  have e_gr := wrapV ok.gr
  have e_bo := wrapV ok.bo
  clear h ok
  have hc : n = 0 ∨ n = 1 ∨ n = 2 ∨ n = 3 ∨ n = 4 ∨ n = 5 ∨ n = 6 ∨ n = 7 ∨ n = 8 ∨ n = 9 := by omega
  clear hn
  rcases hc with rfl | rfl | rfl | rfl | rfl | rfl | rfl | rfl | rfl | rfl
  · clear c_key c_hi c_li c_of c_st c_host c_gr c_bo c_ma
    simp only [Mg.num]
    go_enter Tryz.func116, Tryz.ntmps116
    go_wp2
    go_ret
    exact ⟨rfl, rfl⟩
  · clear c_seq c_hi c_li c_of c_st c_host c_gr c_bo c_ma
    simp only [Mg.num]
    go_enter Tryz.func116, Tryz.ntmps116
    go_wp2
    go_ret
    exact ⟨rfl, rfl⟩
  · clear c_seq c_key c_li c_of c_st c_host c_gr c_bo c_ma
    simp only [Mg.num]
    go_enter Tryz.func116, Tryz.ntmps116
    go_wp2
    go_ret
    exact ⟨rfl, rfl⟩
  · clear c_seq c_key c_hi c_of c_st c_host c_gr c_bo c_ma
    simp only [Mg.num]
    go_enter Tryz.func116, Tryz.ntmps116
    go_wp2
    go_ret
    exact ⟨rfl, rfl⟩
  · clear c_seq c_key c_hi c_li c_st c_host c_gr c_bo c_ma
    simp only [Mg.num]
    go_enter Tryz.func116, Tryz.ntmps116
    go_wp2
    go_ret
    exact ⟨rfl, rfl⟩
  · clear c_seq c_key c_hi c_li c_of c_host c_gr c_bo c_ma
    simp only [Mg.num]
    go_enter Tryz.func116, Tryz.ntmps116
    go_wp2
    go_ret
    exact ⟨rfl, rfl⟩
  · clear c_seq c_key c_hi c_li c_of c_st c_gr c_bo c_ma
    simp only [Mg.num]
    go_enter Tryz.func116, Tryz.ntmps116
    go_wp2
    go_ret
    exact ⟨rfl, rfl⟩
  · clear c_seq c_key c_hi c_li c_of c_st c_host c_bo c_ma
    simp only [Mg.num]
    go_enter Tryz.func116, Tryz.ntmps116
    go_wp2
    go_ret
    exact ⟨rfl, rfl⟩
  · clear c_seq c_key c_hi c_li c_of c_st c_host c_gr c_ma
    simp only [Mg.num]
    go_enter Tryz.func116, Tryz.ntmps116
    go_wp2
    go_ret
    exact ⟨rfl, rfl⟩
  · clear c_seq c_key c_hi c_li c_of c_st c_host c_gr c_bo
    simp only [Mg.num]
    go_enter Tryz.func116, Tryz.ntmps116
    go_wp2
    go_ret
    exact ⟨rfl, rfl⟩
set_option maxRecDepth 100000 in
set_option maxHeartbeats 1000000 in
theorem set_zero {w : World} {b : Nat} {m : Mg} (h : Blk w b m) (n : Nat) (hn : n ≤ 9) : Calls Tryz.prog 172 #[.int .i64 (n : Int), .pointer (some ⟨b, 0, none⟩), .int .u64 0] w fun e w' => e = .returned (.tuple #[]) ∧ Blk w' b (m.clr n) ∧ Kp (fun i => i = b) w w' := by
  have c_seq := h.at 1 (.int .u64 m.seq) rfl
  have f_seq := h.free 1
  have c_key := h.at 2 (.int .u64 m.key) rfl
  have f_key := h.free 2
  have c_hi := h.at 3 (.int .u64 m.hi) rfl
  have f_hi := h.free 3
  have c_li := h.at 13 (.int .u8 m.li) rfl
  have f_li := h.free 13
  have c_of := h.at 7 (.int .u8 m.of) rfl
  have f_of := h.free 7
  have c_st := h.at 8 (.int .u8 m.st) rfl
  have f_st := h.free 8
  have c_host := h.at 9 (.int .u8 m.host) rfl
  have f_host := h.free 9
  have c_gr := h.at 10 (.int .u32 m.gr) rfl
  have f_gr := h.free 10
  have c_bo := h.at 11 (.int .u32 m.bo) rfl
  have f_bo := h.free 11
  have c_ma := h.at 12 (.int .u64 m.ma) rfl
  have f_ma := h.free 12
  have HB := hide h
  clear h
  have hc : n = 0 ∨ n = 1 ∨ n = 2 ∨ n = 3 ∨ n = 4 ∨ n = 5 ∨ n = 6 ∨ n = 7 ∨ n = 8 ∨ n = 9 := by omega
  clear hn
  rcases hc with rfl | rfl | rfl | rfl | rfl | rfl | rfl | rfl | rfl | rfl
  · clear c_key f_key c_hi f_hi c_li f_li c_of f_of c_st f_st c_host f_host c_gr f_gr c_bo f_bo c_ma f_ma
    go_enter Tryz.func172, Tryz.ntmps172
    go_wp2
    go_end0
    exact ⟨rfl, (set3 HB.out 1 _).trans rfl, Kp.setCell w ⟨b, 1, none⟩ _⟩
  · clear c_seq f_seq c_hi f_hi c_li f_li c_of f_of c_st f_st c_host f_host c_gr f_gr c_bo f_bo c_ma f_ma
    go_enter Tryz.func172, Tryz.ntmps172
    go_wp2
    go_end0
    exact ⟨rfl, (set3 HB.out 2 _).trans rfl, Kp.setCell w ⟨b, 2, none⟩ _⟩
  · clear c_seq f_seq c_key f_key c_li f_li c_of f_of c_st f_st c_host f_host c_gr f_gr c_bo f_bo c_ma f_ma
    go_enter Tryz.func172, Tryz.ntmps172
    go_wp2
    go_end0
    exact ⟨rfl, (set3 HB.out 3 _).trans rfl, Kp.setCell w ⟨b, 3, none⟩ _⟩
  · clear c_seq f_seq c_key f_key c_hi f_hi c_of f_of c_st f_st c_host f_host c_gr f_gr c_bo f_bo c_ma f_ma
    go_enter Tryz.func172, Tryz.ntmps172
    go_wp2
    go_end0
    exact ⟨rfl, (set3 HB.out 13 _).trans rfl, Kp.setCell w ⟨b, 13, none⟩ _⟩
  · clear c_seq f_seq c_key f_key c_hi f_hi c_li f_li c_st f_st c_host f_host c_gr f_gr c_bo f_bo c_ma f_ma
    go_enter Tryz.func172, Tryz.ntmps172
    go_wp2
    go_end0
    exact ⟨rfl, (set3 HB.out 7 _).trans rfl, Kp.setCell w ⟨b, 7, none⟩ _⟩
  · clear c_seq f_seq c_key f_key c_hi f_hi c_li f_li c_of f_of c_host f_host c_gr f_gr c_bo f_bo c_ma f_ma
    go_enter Tryz.func172, Tryz.ntmps172
    go_wp2
    go_end0
    exact ⟨rfl, (set3 HB.out 8 _).trans rfl, Kp.setCell w ⟨b, 8, none⟩ _⟩
  · clear c_seq f_seq c_key f_key c_hi f_hi c_li f_li c_of f_of c_st f_st c_gr f_gr c_bo f_bo c_ma f_ma
    go_enter Tryz.func172, Tryz.ntmps172
    go_wp2
    go_end0
    exact ⟨rfl, (set3 HB.out 9 _).trans rfl, Kp.setCell w ⟨b, 9, none⟩ _⟩
  · clear c_seq f_seq c_key f_key c_hi f_hi c_li f_li c_of f_of c_st f_st c_host f_host c_bo f_bo c_ma f_ma
    go_enter Tryz.func172, Tryz.ntmps172
    go_wp2
    go_end0
    exact ⟨rfl, (set3 HB.out 10 _).trans rfl, Kp.setCell w ⟨b, 10, none⟩ _⟩
  · clear c_seq f_seq c_key f_key c_hi f_hi c_li f_li c_of f_of c_st f_st c_host f_host c_gr f_gr c_ma f_ma
    go_enter Tryz.func172, Tryz.ntmps172
    go_wp2
    go_end0
    exact ⟨rfl, (set3 HB.out 11 _).trans rfl, Kp.setCell w ⟨b, 11, none⟩ _⟩
  · clear c_seq f_seq c_key f_key c_hi f_hi c_li f_li c_of f_of c_st f_st c_host f_host c_gr f_gr c_bo f_bo
    go_enter Tryz.func172, Tryz.ntmps172
    go_wp2
    go_end0
    exact ⟨rfl, (set3 HB.out 12 _).trans rfl, Kp.setCell w ⟨b, 12, none⟩ _⟩
end Go.Proofs.YtmlnglillgplfaaGreat.Cl
