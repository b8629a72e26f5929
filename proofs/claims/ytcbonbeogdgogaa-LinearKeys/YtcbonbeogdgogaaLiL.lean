import Derived.Test.YtcbonbeogdgogaaLiC
import Derived.Test.YtcbonbeogdgogaaLiE
namespace Go.Proofs.Ytcbonbeogdgogaa.Li
open Go.RowKit
set_option linter.unusedVariables false
/-- a call, with its bytes -/
structure Ca where
  who : Int
  seq : Int
  k : Int
  key : Int
  hi : Int
  lim : Int
  st : Int
  beg : Int
  en : Int
  has : Bool
  va : Option Addr
  oa : Option Addr
  ya : Option Addr
  vc : Nat
  oc : Nat
  yc : Nat
  V : List Int
  O : List Int
  Y : List Int
def Ca.cells (c : Ca) : List Value := [.int .u8 c.who, .int .u64 c.seq, .int .u8 c.k, .int .u64 c.key, .int .u64 c.hi, .slice c.va c.V.length c.vc, .slice c.oa c.O.length c.oc, .bool c.has, .int .u8 c.lim, .int .u8 c.st, .slice c.ya c.Y.length c.yc, .int .i64 c.beg, .int .i64 c.en]
/-- the same call, its bytes elsewhere -/
def Ca.at_ (c : Ca) (va oa ya : Option Addr) (vc oc yc : Nat) : Ca := { c with va := va, oa := oa, ya := ya, vc := vc, oc := oc, yc := yc }
/-- two calls say the same -/
def Same (c d : Ca) : Prop := ∃ va oa ya vc oc yc, d = c.at_ va oa ya vc oc yc
def flat (L : List Ca) : List Value := L.flatMap Ca.cells
theorem flat_snoc (D : List Ca) (d : Ca) : flat (D ++ [d]) = flat D ++ d.cells := by simp [flat]
theorem flat_len (D : List Ca) : (flat D).length = D.length * 13 := by
  induction D with
  | nil => rfl
  | cons d D ih =>
    have : flat (d :: D) = d.cells ++ flat D := rfl
    rw [this, List.length_append, ih]
    show 13 + _ = _
    simp
    omega
/-- a call's bytes can be read -/
structure CaOk (w : World) (c : Ca) : Prop where
  v : By w (.slice c.va c.V.length c.vc) c.V
  o : By w (.slice c.oa c.O.length c.oc) c.O
  y : By w (.slice c.ya c.Y.length c.yc) c.Y
theorem CaOk.nu {w w' : World} {c : Ca} (h : CaOk w c) (k : Kp Nu w w') : CaOk w' c := ⟨h.v.nu k, h.o.nu k, h.y.nu k⟩
/-- calls in memory -/
def Cls (w : World) (u : Value) (L : List Ca) : Prop :=
  ((∃ a c, u = .slice a 0 c) ∧ L = []) ∨ ∃ b off cap, u = .slice (some ⟨b, off, none⟩) L.length cap ∧ ∀ (i : Nat) c, L[i]? = some c → w.rangeAt b (off + i * 13) c.cells ∧ CaOk w c
theorem Cls.slice {w : World} {u : Value} {L : List Ca} (h : Cls w u L) : ∃ a c, u = .slice a L.length c := by
  rcases h with ⟨⟨a, c, rfl⟩, rfl⟩ | ⟨b, off, cap, rfl, _⟩
  · exact ⟨a, c, rfl⟩
  · exact ⟨_, cap, rfl⟩
theorem rangeAt_nu {w w' : World} {b o : Nat} {cs : List Value} (h : w.rangeAt b o cs) (k : Kp Nu w w') : w'.rangeAt b o cs := fun j v hv => by
  have q := h j v hv
  exact (World.cell?_of_block (k.block _ (World.block_lt_of_cell? w _ q) (fun h => h))).trans q
theorem Cls.nu {w w' : World} {u : Value} {L : List Ca} (h : Cls w u L) (k : Kp Nu w w') : Cls w' u L := by
  rcases h with h | ⟨b, off, cap, h0, hc⟩
  · exact .inl h
  · exact .inr ⟨b, off, cap, h0, fun i c hi => ⟨rangeAt_nu (hc i c hi).1 k, (hc i c hi).2.nu k⟩⟩
/-- blocks of bytes stand -/
def K5 (w w' : World) : Prop := ∀ (g : Nat) (cur : Array Value), w.heap[g]? = some (Obj.cells cur 5 (0, 0)) → w'.heap[g]? = some (Obj.cells cur 5 (0, 0))
theorem K5.trans {a b c : World} (h : K5 a b) (k : K5 b c) : K5 a c := fun g cur hg => k g cur (h g cur hg)
theorem K5.nu {w w' : World} (k : Kp Nu w w') : K5 w w' := fun g cur hg => box_k hg k
theorem K5.set {w : World} {b o : Nat} {c : Array Value} {u : Value} (h : w.heap[b]? = some (.cells c 30 (0, 0))) : K5 w (w.setCell ⟨b, o, none⟩ u) := fun g cur hg => by
  have hne : g ≠ b := fun e => by rw [e, h] at hg; simp at hg
  exact ((Kp.setCell w ⟨b, o, none⟩ u).block g (blk_lt hg) (fun e => hne e)).trans hg
theorem K5.grown {w w' : World} {v : Value} {B n : Nat} {xs : List Value} (ho : w.ownsRow B 30 13 v n xs) (h : w.grownBy w' v.ownBlock) : K5 w w' := fun g cur hg => by
  refine (h.block g (blk_lt hg) (fun e => ?_)).trans hg
  obtain ⟨c, hc⟩ := own_obj ho e.symm
  rw [hc] at hg
  simp at hg
/-- a call whose bytes are the caller's own -/
structure Ow (w : World) (B : Nat) (c : Ca) : Prop where
  v : w.ownsRow B 5 1 (.slice c.va c.V.length c.vc) c.V.length (cs c.V)
  o : w.ownsRow B 5 1 (.slice c.oa c.O.length c.oc) c.O.length (cs c.O)
  y : w.ownsRow B 5 1 (.slice c.ya c.Y.length c.yc) c.Y.length (cs c.Y)
  bv : Byt c.V ∧ Fit c.V
  bo : Byt c.O ∧ Fit c.O
  by_ : Byt c.Y ∧ Fit c.Y
theorem own5 {w w' : World} {B n : Nat} {v : Value} {xs : List Value} (h : w.ownsRow B 5 1 v n xs) (k : K5 w w') : w'.ownsRow B 5 1 v n xs :=
  own_keep h (fun g hg => by obtain ⟨cur, hc⟩ := own_obj h hg; rw [k g cur hc, hc])
theorem Ow.k5 {w w' : World} {B : Nat} {c : Ca} (h : Ow w B c) (k : K5 w w') : Ow w' B c := ⟨own5 h.v k, own5 h.o k, own5 h.y k, h.bv, h.bo, h.by_⟩
theorem Ow.ok {w : World} {B : Nat} {c : Ca} (h : Ow w B c) : CaOk w c := ⟨⟨Rd.of_own h.v, h.bv.1, h.bv.2⟩, ⟨Rd.of_own h.o, h.bo.1, h.bo.2⟩, ⟨Rd.of_own h.y, h.by_.1, h.by_.2⟩⟩
/-- calls of one's own -/
structure Cow (w : World) (B : Nat) (v : Value) (D : List Ca) : Prop where
  row : w.ownsRow B 30 13 v D.length (flat D)
  each : ∀ d ∈ D, Ow w B d
theorem flat_at {D : List Ca} {i j : Nat} {d : Ca} {v : Value} (hd : D[i]? = some d) (hv : d.cells[j]? = some v) : (flat D)[i * 13 + j]? = some v := by
  induction D generalizing i with
  | nil => simp at hd
  | cons e D ih =>
    have hf : flat (e :: D) = e.cells ++ flat D := rfl
    have hl : e.cells.length = 13 := rfl
    have hj : j < 13 := by have := (List.getElem?_eq_some_iff.1 hv).1; simpa [Ca.cells] using this
    cases i with
    | zero =>
      simp only [List.getElem?_cons_zero, Option.some.injEq] at hd
      subst hd
      rw [hf, Nat.zero_mul, Nat.zero_add, List.getElem?_append_left (by omega)]
      exact hv
    | succ i =>
      simp only [List.getElem?_cons_succ] at hd
      rw [hf, List.getElem?_append_right (by omega), hl]
      have : (i + 1) * 13 + j - 13 = i * 13 + j := by omega
      rw [this]
      exact ih hd
theorem Cow.cls {w : World} {B : Nat} {v : Value} {D : List Ca} (h : Cow w B v D) : Cls w v D := by
  rcases h.row.2 with ⟨rfl, h0⟩ | ⟨g, cap, cur, rfl, hb', hg, h1, h2, h3, h4⟩
  · exact .inl ⟨⟨_, _, rfl⟩, List.eq_nil_of_length_eq_zero h0⟩
  · refine .inr ⟨g, 0, cap, rfl, fun i c hi => ⟨fun j x hj => ?_, (h.each c (List.mem_of_getElem? hi)).ok⟩⟩
    have hf := flat_at hi hj
    rw [← h4] at hf
    have hlt : i * 13 + j < D.length * 13 := by
      have := (List.getElem?_eq_some_iff.1 hf).1
      rw [List.length_take] at this
      omega
    rw [List.getElem?_take_of_lt hlt] at hf
    rw [Nat.zero_add]
    simpa [World.cell?, hg] using hf
theorem info30z : (Try.prog.info? 30).map (fun i => (i.zero, i.size, i.bytes)) = some (some (.agg #[.int .u8 0, .int .u64 0, .int .u8 0, .int .u64 0, .int .u64 0, .slice none 0 0, .slice none 0 0, .bool false, .int .u8 0, .int .u8 0, .slice none 0 0, .int .i64 0, .int .i64 0]), 13, 144) := by kernel_rfl
theorem unhid {p : Prop} (h : Hid p) : p := h
/-- the first calls say the same -/
def Alk (L D : List Ca) (i : Nat) : Prop := ∀ j, j < i → ∃ c d, L[j]? = some c ∧ D[j]? = some d ∧ Same c d
/-- where the rounds of twins stand -/
structure TwI (w wr : World) (L : List Ca) (i : Nat) (lv : Value) (D : List Ca) : Prop where
  len : D.length = i
  same : Alk L D i
  cow : Cow wr w.heap.size lv D
  kp : Kp Nu w wr
theorem range_cells {w : World} {b o : Nat} {c : Ca} (h : w.rangeAt b o c.cells) : w.cell? ⟨b, o, none⟩ = some (.int .u8 c.who) ∧ w.cell? ⟨b, o + 1, none⟩ = some (.int .u64 c.seq) ∧ w.cell? ⟨b, o + 2, none⟩ = some (.int .u8 c.k) ∧ w.cell? ⟨b, o + 3, none⟩ = some (.int .u64 c.key) ∧ w.cell? ⟨b, o + 4, none⟩ = some (.int .u64 c.hi) ∧ w.cell? ⟨b, o + 5, none⟩ = some (.slice c.va c.V.length c.vc) ∧ w.cell? ⟨b, o + 6, none⟩ = some (.slice c.oa c.O.length c.oc) ∧ w.cell? ⟨b, o + 7, none⟩ = some (.bool c.has) ∧ w.cell? ⟨b, o + 8, none⟩ = some (.int .u8 c.lim) ∧ w.cell? ⟨b, o + 9, none⟩ = some (.int .u8 c.st) ∧ w.cell? ⟨b, o + 10, none⟩ = some (.slice c.ya c.Y.length c.yc) ∧ w.cell? ⟨b, o + 11, none⟩ = some (.int .i64 c.beg) ∧ w.cell? ⟨b, o + 12, none⟩ = some (.int .i64 c.en) :=
  ⟨by simpa using h 0 _ rfl, h 1 _ rfl, h 2 _ rfl, h 3 _ rfl, h 4 _ rfl, h 5 _ rfl, h 6 _ rfl, h 7 _ rfl, h 8 _ rfl, h 9 _ rfl, h 10 _ rfl, h 11 _ rfl, h 12 _ rfl⟩
theorem row_new (w : World) (c : Ca) (ty : TypeId) : ∀ j u, c.cells[j]? = some u → (w.alloc (.cells c.cells.toArray ty)).cell? ((⟨w.heap.size, 0, none⟩ : Addr).add j) = some u := fun j u hj => by
  rw [Addr.add_lit, Nat.zero_add]
  exact cellAt (heap_new w _) j (by simpa using hj)
end Go.Proofs.Ytcbonbeogdgogaa.Li
