import Derived.Test.YtmlnglillgplfaaGreatLs
import Derived.Test.YtmlnglillgplfaaGreatWcA
import Derived.Test.YtmlnglillgplfaaGreatSmA
import Derived.Test.YtmlnglillgplfaaGreatRgJ
import Derived.Test.YtmlnglillgplfaaGreatRgQ
import Derived.Maps.OwnSet
import Derived.Deep.RegionHeld3
namespace Go.Proofs.YtmlnglillgplfaaGreat.Cl
open Go.RowKit Go.Maps
set_option linter.unusedVariables false
/-- a client's state -/
structure Cs where
  hosts : Int
  pat : Int
  tries : Int
  hb : Nat
  rk : Int
  rkey : Int
  rhi : Int
  rv : Sl
  ro : Sl
  rhas : Bool
  rlim : Int
  ph : Int
  seq : Int
  st : Int
  ov : Sl
  op : Sl
  ohi : Int
  host : Int
  sent : Int
  hops : Int
  mb : Nat
  ticks : Int
  tmo : Int
def Cs.cells (s : Cs) : Array Value := #[.int .i64 s.hosts, .int .i64 s.pat, .int .i64 s.tries, .pointer (some ⟨s.hb, 0, none⟩), .int .u8 s.rk, .int .u64 s.rkey, .int .u64 s.rhi, s.rv.val, s.ro.val, .bool s.rhas, .int .u8 s.rlim, .int .u8 s.ph, .int .u64 s.seq, .int .u8 s.st, s.ov.val, s.op.val, .int .u64 s.ohi, .int .u8 s.host, .int .i64 s.sent, .int .i64 s.hops, .map (some s.mb), .int .i64 s.ticks, .int .i64 s.tmo]
def CB (w : World) (b : Nat) (s : Cs) : Prop := w.heap[b]? = some (.cells s.cells 122 (0, 0))
theorem CB.nu {w w' : World} {b : Nat} {s : Cs} (h : CB w b s) (k : Kp Nu w w') : CB w' b s := (k.block b (blk_lt h) (fun h => h)).trans h
theorem CB.kp {w w' : World} {S : Nat → Prop} {b : Nat} {s : Cs} (h : CB w b s) (k : Kp S w w') (hn : ¬ S b) : CB w' b s := (k.block b (blk_lt h) hn).trans h
theorem CB.free {w : World} {b : Nat} {s : Cs} (h : CB w b s) (i : Nat) : w.frozen? ⟨b, i, none⟩ = false := free3 h i
theorem CB.lt {w : World} {b : Nat} {s : Cs} (h : CB w b s) : b < w.heap.size := blk_lt h
theorem CB.c_hosts {w : World} {b : Nat} {s : Cs} (h : CB w b s) : w.cell? ⟨b, 0, none⟩ = some (.int .i64 s.hosts) := cellAt h 0 rfl
theorem CB.c_pat {w : World} {b : Nat} {s : Cs} (h : CB w b s) : w.cell? ⟨b, 1, none⟩ = some (.int .i64 s.pat) := cellAt h 1 rfl
theorem CB.c_tries {w : World} {b : Nat} {s : Cs} (h : CB w b s) : w.cell? ⟨b, 2, none⟩ = some (.int .i64 s.tries) := cellAt h 2 rfl
theorem CB.c_hb {w : World} {b : Nat} {s : Cs} (h : CB w b s) : w.cell? ⟨b, 3, none⟩ = some (.pointer (some ⟨s.hb, 0, none⟩)) := cellAt h 3 rfl
theorem CB.c_rk {w : World} {b : Nat} {s : Cs} (h : CB w b s) : w.cell? ⟨b, 4, none⟩ = some (.int .u8 s.rk) := cellAt h 4 rfl
theorem CB.c_rkey {w : World} {b : Nat} {s : Cs} (h : CB w b s) : w.cell? ⟨b, 5, none⟩ = some (.int .u64 s.rkey) := cellAt h 5 rfl
theorem CB.c_rhi {w : World} {b : Nat} {s : Cs} (h : CB w b s) : w.cell? ⟨b, 6, none⟩ = some (.int .u64 s.rhi) := cellAt h 6 rfl
theorem CB.c_rv {w : World} {b : Nat} {s : Cs} (h : CB w b s) : w.cell? ⟨b, 7, none⟩ = some (.slice s.rv.a s.rv.n s.rv.c) := cellAt h 7 rfl
theorem CB.c_ro {w : World} {b : Nat} {s : Cs} (h : CB w b s) : w.cell? ⟨b, 8, none⟩ = some (.slice s.ro.a s.ro.n s.ro.c) := cellAt h 8 rfl
theorem CB.c_rhas {w : World} {b : Nat} {s : Cs} (h : CB w b s) : w.cell? ⟨b, 9, none⟩ = some (.bool s.rhas) := cellAt h 9 rfl
theorem CB.c_rlim {w : World} {b : Nat} {s : Cs} (h : CB w b s) : w.cell? ⟨b, 10, none⟩ = some (.int .u8 s.rlim) := cellAt h 10 rfl
theorem CB.c_ph {w : World} {b : Nat} {s : Cs} (h : CB w b s) : w.cell? ⟨b, 11, none⟩ = some (.int .u8 s.ph) := cellAt h 11 rfl
theorem CB.c_seq {w : World} {b : Nat} {s : Cs} (h : CB w b s) : w.cell? ⟨b, 12, none⟩ = some (.int .u64 s.seq) := cellAt h 12 rfl
theorem CB.c_st {w : World} {b : Nat} {s : Cs} (h : CB w b s) : w.cell? ⟨b, 13, none⟩ = some (.int .u8 s.st) := cellAt h 13 rfl
theorem CB.c_ov {w : World} {b : Nat} {s : Cs} (h : CB w b s) : w.cell? ⟨b, 14, none⟩ = some (.slice s.ov.a s.ov.n s.ov.c) := cellAt h 14 rfl
theorem CB.c_op {w : World} {b : Nat} {s : Cs} (h : CB w b s) : w.cell? ⟨b, 15, none⟩ = some (.slice s.op.a s.op.n s.op.c) := cellAt h 15 rfl
theorem CB.c_ohi {w : World} {b : Nat} {s : Cs} (h : CB w b s) : w.cell? ⟨b, 16, none⟩ = some (.int .u64 s.ohi) := cellAt h 16 rfl
theorem CB.c_host {w : World} {b : Nat} {s : Cs} (h : CB w b s) : w.cell? ⟨b, 17, none⟩ = some (.int .u8 s.host) := cellAt h 17 rfl
theorem CB.c_sent {w : World} {b : Nat} {s : Cs} (h : CB w b s) : w.cell? ⟨b, 18, none⟩ = some (.int .i64 s.sent) := cellAt h 18 rfl
theorem CB.c_hops {w : World} {b : Nat} {s : Cs} (h : CB w b s) : w.cell? ⟨b, 19, none⟩ = some (.int .i64 s.hops) := cellAt h 19 rfl
theorem CB.c_mb {w : World} {b : Nat} {s : Cs} (h : CB w b s) : w.cell? ⟨b, 20, none⟩ = some (.map (some s.mb)) := cellAt h 20 rfl
theorem CB.c_ticks {w : World} {b : Nat} {s : Cs} (h : CB w b s) : w.cell? ⟨b, 21, none⟩ = some (.int .i64 s.ticks) := cellAt h 21 rfl
theorem CB.c_tmo {w : World} {b : Nat} {s : Cs} (h : CB w b s) : w.cell? ⟨b, 22, none⟩ = some (.int .i64 s.tmo) := cellAt h 22 rfl
theorem CB.s_hb {w : World} {b : Nat} {s : Cs} (h : CB w b s) (x : Nat) : CB (w.setCell ⟨b, 3, none⟩ (.pointer (some ⟨x, 0, none⟩))) b { s with hb := x } := (set3 h 3 _).trans rfl
theorem CB.s_ph {w : World} {b : Nat} {s : Cs} (h : CB w b s) (x : Int) : CB (w.setCell ⟨b, 11, none⟩ (.int .u8 x)) b { s with ph := x } := (set3 h 11 _).trans rfl
theorem CB.s_host {w : World} {b : Nat} {s : Cs} (h : CB w b s) (x : Int) : CB (w.setCell ⟨b, 17, none⟩ (.int .u8 x)) b { s with host := x } := (set3 h 17 _).trans rfl
theorem CB.s_sent {w : World} {b : Nat} {s : Cs} (h : CB w b s) (x : Int) : CB (w.setCell ⟨b, 18, none⟩ (.int .i64 x)) b { s with sent := x } := (set3 h 18 _).trans rfl
theorem CB.s_hops {w : World} {b : Nat} {s : Cs} (h : CB w b s) (x : Int) : CB (w.setCell ⟨b, 19, none⟩ (.int .i64 x)) b { s with hops := x } := (set3 h 19 _).trans rfl
theorem CB.s_ticks {w : World} {b : Nat} {s : Cs} (h : CB w b s) (x : Int) : CB (w.setCell ⟨b, 21, none⟩ (.int .i64 x)) b { s with ticks := x } := (set3 h 21 _).trans rfl
theorem CB.s_tmo {w : World} {b : Nat} {s : Cs} (h : CB w b s) (x : Int) : CB (w.setCell ⟨b, 22, none⟩ (.int .i64 x)) b { s with tmo := x } := (set3 h 22 _).trans rfl
/-- bytes of one's own -/
def Bt (w : World) (s : Sl) (ys : List Int) : Prop := w.ownsRow 0 5 1 s.val ys.length (cs ys)
theorem Bt.rd {w : World} {s : Sl} {ys : List Int} (h : Bt w s ys) : Rd w s.val ys := Rd.of_own h
theorem Bt.n {w : World} {s : Sl} {ys : List Int} (h : Bt w s ys) : s.n = ys.length := by
  obtain ⟨a, c, e⟩ := own_slice h
  simp only [Sl.val, Value.slice.injEq] at e
  exact e.2.1
theorem Bt.nu {w w' : World} {s : Sl} {ys : List Int} (h : Bt w s ys) (k : Kp Nu w w') : Bt w' s ys := own_keep h (fun g hg => k.block g (own_lt h hg) (fun h => h))
/-- .. stands where no block of bytes has turned -/
theorem Bt.kp {w w' : World} {S : Nat → Prop} {s : Sl} {ys : List Int} (h : Bt w s ys) (k : Kp S w w') (hS : ∀ i, S i → ∀ c, w.heap[i]? ≠ some (.cells c 5 (0, 0))) : Bt w' s ys :=
  own_keep h (fun g hg => k.block g (own_lt h hg) (fun hs => by
    obtain ⟨c, hc⟩ := own_obj h hg
    exact hS g hs c hc))
theorem Bt.of {w : World} {B : Nat} {v : Value} {ys : List Int} (h : w.ownsRow B 5 1 v ys.length (cs ys)) : ∃ s : Sl, v = s.val ∧ Bt w s ys := by
  obtain ⟨a, c, e⟩ := own_slice h
  exact ⟨⟨a, ys.length, c⟩, e, by rw [e] at h; exact own_base h (Nat.zero_le _)⟩
theorem hostKeyed : Keyed Tryz.prog 30 := int_keyed Tryz.underlying30
/-- the hosts asked, in memory -/
def Am (w : World) (mb nb : Nat) (D : DataW Unit) : Prop := w.ownsMap Tryz.prog 30 unitElem mb nb D
theorem Am.obj {w : World} {mb nb : Nat} {D : DataW Unit} (h : Am w mb nb D) : ∃ es clock, w.heap[mb]? = some (.map es clock) := by
  obtain ⟨es, clock, hb, _⟩ := h
  exact ⟨es, clock, hb⟩
theorem Am.keep {w w' : World} {mb nb : Nat} {D : DataW Unit} (h : Am w mb nb D) (hb : w'.heap[mb]? = w.heap[mb]?) : Am w' mb nb D := by
  obtain ⟨es, clock, hx, r⟩ := h
  exact ⟨es, clock, hb.trans hx, r⟩
theorem Am.lt {w : World} {mb nb : Nat} {D : DataW Unit} (h : Am w mb nb D) : mb < w.heap.size := by
  obtain ⟨es, clock, hx⟩ := h.obj
  exact blk_lt hx
end Go.Proofs.YtmlnglillgplfaaGreat.Cl
