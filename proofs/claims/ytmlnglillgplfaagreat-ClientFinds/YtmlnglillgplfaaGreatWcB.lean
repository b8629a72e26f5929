import Derived.Test.YtmlnglillgplfaaGreatWcA
import Derived.Handy
namespace Go.Proofs.YtmlnglillgplfaaGreat.Cl
open Go.RowKit
set_option linter.unusedVariables false
theorem mc191 (n : Int) (w : World) : (method 372 191 (.int .i64 n) "shard/wire.clear").run Tryz.prog w = .ok (165, .int .i64 n) w := by kernel_rfl
theorem mk191 (n : Int) (w : World) : (method 372 191 (.int .i64 n) "shard/wire.check").run Tryz.prog w = .ok (164, .int .i64 n) w := by kernel_rfl
theorem mc205 (n : Int) (w : World) : (method 372 205 (.int .i64 n) "shard/wire.clear").run Tryz.prog w = .ok (177, .int .i64 n) w := by kernel_rfl
theorem mk205 (n : Int) (w : World) : (method 372 205 (.int .i64 n) "shard/wire.check").run Tryz.prog w = .ok (176, .int .i64 n) w := by kernel_rfl
theorem mc206 (w : World) : (method 372 206 (.agg #[]) "shard/wire.clear").run Tryz.prog w = .ok (187, .agg #[]) w := by kernel_rfl
theorem mk206 (w : World) : (method 372 206 (.agg #[]) "shard/wire.check").run Tryz.prog w = .ok (186, .agg #[]) w := by kernel_rfl
theorem mc208 (w : World) : (method 372 208 (.agg #[.int .i64 2]) "shard/wire.clear").run Tryz.prog w = .ok (165, .int .i64 2) w := by kernel_rfl
theorem mk208 (w : World) : (method 372 208 (.agg #[.int .i64 2]) "shard/wire.check").run Tryz.prog w = .ok (164, .int .i64 2) w := by kernel_rfl
theorem mc209 (w : World) : (method 372 209 (.agg #[]) "shard/wire.clear").run Tryz.prog w = .ok (196, .agg #[]) w := by kernel_rfl
theorem mk209 (w : World) : (method 372 209 (.agg #[]) "shard/wire.check").run Tryz.prog w = .ok (195, .agg #[]) w := by kernel_rfl
theorem wrap8 {x : Int} (h : 0 ≤ x ∧ x < 256) : IntKind.u8.wrap x = x := by
  obtain ⟨h0, h1⟩ := h
  simp only [IntKind.wrap, IntKind.signed, IntKind.bits]
  first | omega | (simp; omega)
/-- may a reply to this say that? -/
def stOk (o s : Int) : Prop := (o = 1 ∧ (s = 1 ∨ s = 2)) ∨ (o = 2 ∧ (s = 1 ∨ s = 4)) ∨ (o = 3 ∧ (s = 1 ∨ s = 2)) ∨ (o = 4 ∧ (s = 1 ∨ s = 3 ∨ s = 4)) ∨ (o = 5 ∧ s = 1)
/-- a field as a value: seq 0, key 1, reach 2, limit 3, of 4, status 5, host 6, value 7, old 8, hi 9, pairs 10 -/
def fv : Nat → Value
  | 2 => .iface 208 (.agg #[.int .i64 2])
  | 7 => .iface 205 (.int .i64 0)
  | 8 => .iface 206 (.agg #[])
  | 9 => .iface 191 (.int .i64 2)
  | 10 => .iface 209 (.agg #[])
  | n => .iface 191 (.int .i64 (n : Int))
/-- the message without it -/
def Mg.clf (m : Mg) : Nat → Mg
  | 7 => { m with v := Sl.nil }
  | 8 => { m with has := false, o := Sl.nil }
  | 9 => m.clr 2
  | 10 => { m with pa := Sl.nil }
  | n => m.clr n
/-- is it as it may be? -/
def Mg.okf (m : Mg) : Nat → Prop
  | 0 => 1 ≤ m.seq
  | 1 => True
  | 2 => m.key ≤ m.hi
  | 3 => 1 ≤ m.li ∧ m.li ≤ 16
  | 4 => 1 ≤ m.of ∧ m.of ≤ 5
  | 5 => m.k ≠ 9 ∧ stOk m.of m.st
  | 6 => m.host < 16
  | 7 => (m.v.n : Int) ≤ 64
  | 8 => (m.o.n : Int) ≤ 64 ∧ (m.has = true ∨ m.o.n = 0)
  | 9 => m.key ≤ m.hi
  | 10 => m.pa.n = 0
  | _ => False
set_option maxRecDepth 100000 in
set_option maxHeartbeats 1000000 in
theorem cl0 {w : World} {ub mb fb : Nat} {U M : Mg} (hu : Blk w ub U) (hm : Blk w mb M) (ok : M.Ok) (hne : ub ≠ mb) (h1 : 1 ≤ M.seq) :
    Calls Tryz.prog 89 #[.iface 191 (.int .i64 0), .pointer (some ⟨ub, 0, none⟩), .pointer (some ⟨mb, 0, none⟩), .pointer (some ⟨fb, 0, none⟩)] w fun e w' => e = .returned (.tuple #[]) ∧ Blk w' ub (U.clf 0) ∧ Kp (fun i => i = ub) w w' := by
  have m_seq := hm.at 1 (.int .u64 M.seq) rfl
  have u_seq := hu.at 1 (.int .u64 U.seq) rfl
  have f_seq := hu.free 1
  have q0 := mc191
  have q1 := mk191
  have HB := hide hu
  clear hu hm ok
  go_enter Tryz.func89, Tryz.ntmps89
  go_wp2
  go_end0
  exact ⟨rfl, (set3 HB.out 1 _).trans rfl, Kp.setCell w ⟨ub, 1, none⟩ _⟩
set_option maxRecDepth 100000 in
set_option maxHeartbeats 1000000 in
theorem cl1 {w : World} {ub mb fb : Nat} {U M : Mg} (hu : Blk w ub U) (hm : Blk w mb M) (ok : M.Ok) (hne : ub ≠ mb)  :
    Calls Tryz.prog 89 #[.iface 191 (.int .i64 1), .pointer (some ⟨ub, 0, none⟩), .pointer (some ⟨mb, 0, none⟩), .pointer (some ⟨fb, 0, none⟩)] w fun e w' => e = .returned (.tuple #[]) ∧ Blk w' ub (U.clf 1) ∧ Kp (fun i => i = ub) w w' := by
  have m_key := hm.at 2 (.int .u64 M.key) rfl
  have u_key := hu.at 2 (.int .u64 U.key) rfl
  have f_key := hu.free 2
  have q0 := mc191
  have q1 := mk191
  have HB := hide hu
  clear hu hm ok
  go_enter Tryz.func89, Tryz.ntmps89
  go_wp2
  go_end0
  exact ⟨rfl, (set3 HB.out 2 _).trans rfl, Kp.setCell w ⟨ub, 2, none⟩ _⟩
set_option maxRecDepth 100000 in
set_option maxHeartbeats 1000000 in
theorem cl2 {w : World} {ub mb fb : Nat} {U M : Mg} (hu : Blk w ub U) (hm : Blk w mb M) (ok : M.Ok) (hne : ub ≠ mb) (h1 : M.key ≤ M.hi) :
    Calls Tryz.prog 89 #[.iface 208 (.agg #[.int .i64 2]), .pointer (some ⟨ub, 0, none⟩), .pointer (some ⟨mb, 0, none⟩), .pointer (some ⟨fb, 0, none⟩)] w fun e w' => e = .returned (.tuple #[]) ∧ Blk w' ub (U.clf 2) ∧ Kp (fun i => i = ub) w w' := by
  have m_hi := hm.at 3 (.int .u64 M.hi) rfl
  have m_key := hm.at 2 (.int .u64 M.key) rfl
  have u_hi := hu.at 3 (.int .u64 U.hi) rfl
  have f_hi := hu.free 3
  have q0 := mc208
  have q1 := mk208
  have o1 : M.hi ≥ M.key := h1
  clear h1
  have HB := hide hu
  clear hu hm ok
  go_enter Tryz.func89, Tryz.ntmps89
  go_wp2
  go_end0
  exact ⟨rfl, (set3 HB.out 3 _).trans rfl, Kp.setCell w ⟨ub, 3, none⟩ _⟩
set_option maxRecDepth 100000 in
set_option maxHeartbeats 1000000 in
theorem cl9 {w : World} {ub mb fb : Nat} {U M : Mg} (hu : Blk w ub U) (hm : Blk w mb M) (ok : M.Ok) (hne : ub ≠ mb) (h1 : M.key ≤ M.hi) :
    Calls Tryz.prog 89 #[.iface 191 (.int .i64 2), .pointer (some ⟨ub, 0, none⟩), .pointer (some ⟨mb, 0, none⟩), .pointer (some ⟨fb, 0, none⟩)] w fun e w' => e = .returned (.tuple #[]) ∧ Blk w' ub (U.clf 9) ∧ Kp (fun i => i = ub) w w' := by
  have m_hi := hm.at 3 (.int .u64 M.hi) rfl
  have m_key := hm.at 2 (.int .u64 M.key) rfl
  have u_hi := hu.at 3 (.int .u64 U.hi) rfl
  have f_hi := hu.free 3
  have q0 := mc191
  have q1 := mk191
  have o1 : M.hi ≥ M.key := h1
  clear h1
  have HB := hide hu
  clear hu hm ok
  go_enter Tryz.func89, Tryz.ntmps89
  go_wp2
  go_end0
  exact ⟨rfl, (set3 HB.out 3 _).trans rfl, Kp.setCell w ⟨ub, 3, none⟩ _⟩
set_option maxRecDepth 100000 in
set_option maxHeartbeats 1000000 in
theorem cl3 {w : World} {ub mb fb : Nat} {U M : Mg} (hu : Blk w ub U) (hm : Blk w mb M) (ok : M.Ok) (hne : ub ≠ mb) (h1 : 1 ≤ M.li) (h2 : M.li ≤ 16) :
    Calls Tryz.prog 89 #[.iface 191 (.int .i64 3), .pointer (some ⟨ub, 0, none⟩), .pointer (some ⟨mb, 0, none⟩), .pointer (some ⟨fb, 0, none⟩)] w fun e w' => e = .returned (.tuple #[]) ∧ Blk w' ub (U.clf 3) ∧ Kp (fun i => i = ub) w w' := by
  have m_li := hm.at 13 (.int .u8 M.li) rfl
  have u_li := hu.at 13 (.int .u8 U.li) rfl
  have f_li := hu.free 13
  have q0 := mc191
  have q1 := mk191
  have e1 := wrapU ok.li
  have HB := hide hu
  clear hu hm ok
  go_enter Tryz.func89, Tryz.ntmps89
  go_wp2
  go_end0
  exact ⟨rfl, (set3 HB.out 13 _).trans rfl, Kp.setCell w ⟨ub, 13, none⟩ _⟩
set_option maxRecDepth 100000 in
set_option maxHeartbeats 1000000 in
theorem cl4 {w : World} {ub mb fb : Nat} {U M : Mg} (hu : Blk w ub U) (hm : Blk w mb M) (ok : M.Ok) (hne : ub ≠ mb) (h1 : 1 ≤ M.of) (h2 : M.of ≤ 5) :
    Calls Tryz.prog 89 #[.iface 191 (.int .i64 4), .pointer (some ⟨ub, 0, none⟩), .pointer (some ⟨mb, 0, none⟩), .pointer (some ⟨fb, 0, none⟩)] w fun e w' => e = .returned (.tuple #[]) ∧ Blk w' ub (U.clf 4) ∧ Kp (fun i => i = ub) w w' := by
  have m_of := hm.at 7 (.int .u8 M.of) rfl
  have u_of := hu.at 7 (.int .u8 U.of) rfl
  have f_of := hu.free 7
  have q0 := mc191
  have q1 := mk191
  have e1 := wrapU ok.of
  have e2 := wrap8 ok.of
  have HB := hide hu
  clear hu hm ok
  go_enter Tryz.func89, Tryz.ntmps89
  go_wp2
  go_end0
  exact ⟨rfl, (set3 HB.out 7 _).trans rfl, Kp.setCell w ⟨ub, 7, none⟩ _⟩
set_option maxRecDepth 100000 in
set_option maxHeartbeats 1000000 in
theorem cl6 {w : World} {ub mb fb : Nat} {U M : Mg} (hu : Blk w ub U) (hm : Blk w mb M) (ok : M.Ok) (hne : ub ≠ mb) (h1 : M.host < 16) :
    Calls Tryz.prog 89 #[.iface 191 (.int .i64 6), .pointer (some ⟨ub, 0, none⟩), .pointer (some ⟨mb, 0, none⟩), .pointer (some ⟨fb, 0, none⟩)] w fun e w' => e = .returned (.tuple #[]) ∧ Blk w' ub (U.clf 6) ∧ Kp (fun i => i = ub) w w' := by
  have m_host := hm.at 9 (.int .u8 M.host) rfl
  have u_host := hu.at 9 (.int .u8 U.host) rfl
  have f_host := hu.free 9
  have q0 := mc191
  have q1 := mk191
  have e1 := wrapU ok.host
  have HB := hide hu
  clear hu hm ok
  go_enter Tryz.func89, Tryz.ntmps89
  go_wp2
  go_end0
  exact ⟨rfl, (set3 HB.out 9 _).trans rfl, Kp.setCell w ⟨ub, 9, none⟩ _⟩
set_option maxRecDepth 100000 in
set_option maxHeartbeats 1000000 in
theorem cl5 {w : World} {ub mb fb : Nat} {U M : Mg} (hu : Blk w ub U) (hm : Blk w mb M) (ok : M.Ok) (hne : ub ≠ mb) (hk : M.k ≠ 9) (hs : stOk M.of M.st) :
    Calls Tryz.prog 89 #[.iface 191 (.int .i64 5), .pointer (some ⟨ub, 0, none⟩), .pointer (some ⟨mb, 0, none⟩), .pointer (some ⟨fb, 0, none⟩)] w fun e w' => e = .returned (.tuple #[]) ∧ Blk w' ub (U.clf 5) ∧ Kp (fun i => i = ub) w w' := by
  have m_k := hm.at 0 (.int .u8 M.k) rfl
  have m_of := hm.at 7 (.int .u8 M.of) rfl
  have m_st := hm.at 8 (.int .u8 M.st) rfl
  have u_st := hu.at 8 (.int .u8 U.st) rfl
  have f_st := hu.free 8
  have q0 := mc191
  have q1 := mk191
  have HB := hide hu
  clear hu hm ok
  rcases hs with ⟨e_o, hs | hs⟩ | ⟨e_o, hs | hs⟩ | ⟨e_o, hs | hs⟩ | ⟨e_o, hs | hs | hs⟩ | ⟨e_o, hs⟩ <;>
  · rw [e_o] at m_of
    rw [hs] at m_st
    clear e_o hs
    go_enter Tryz.func89, Tryz.ntmps89
    go_wp2
    go_end0
    exact ⟨rfl, (set3 HB.out 8 _).trans rfl, Kp.setCell w ⟨ub, 8, none⟩ _⟩
set_option maxRecDepth 100000 in
set_option maxHeartbeats 1000000 in
theorem cl7 {w : World} {ub mb fb : Nat} {U M : Mg} (hu : Blk w ub U) (hm : Blk w mb M) (ok : M.Ok) (hne : ub ≠ mb) (h1 : (M.v.n : Int) ≤ 64) :
    Calls Tryz.prog 89 #[.iface 205 (.int .i64 0), .pointer (some ⟨ub, 0, none⟩), .pointer (some ⟨mb, 0, none⟩), .pointer (some ⟨fb, 0, none⟩)] w fun e w' => e = .returned (.tuple #[]) ∧ Blk w' ub (U.clf 7) ∧ Kp (fun i => i = ub) w w' := by
  have q0 := mc205
  have q1 := mk205
  have m_v := hm.at 4 (.slice M.v.a M.v.n M.v.c) rfl
  have u_v := hu.at 4 (.slice U.v.a U.v.n U.v.c) rfl
  have f_v := hu.free 4
  have g1 : ¬ (M.v.n : Int) > 64 := by omega
  clear h1
  generalize M.v.n = vn at *
  have HB := hide hu
  clear hu hm ok
  go_enter Tryz.func89, Tryz.ntmps89
  go_wp2
  go_end0
  exact ⟨rfl, (set3 HB.out 4 _).trans rfl, Kp.setCell w ⟨ub, 4, none⟩ _⟩
end Go.Proofs.YtmlnglillgplfaaGreat.Cl
