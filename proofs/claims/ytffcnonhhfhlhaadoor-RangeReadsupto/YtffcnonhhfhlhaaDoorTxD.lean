import Derived.Test.YtffcnonhhfhlhaaDoorLdE
import Derived.Test.YtffcnonhhfhlhaaDoorAuL
namespace Go.Proofs.YtffcnonhhfhlhaaDoor.Rg
open Go.RowKit Go.Shelf Go.Sort
set_option linter.unusedVariables false

def PowB (B : Nat) (w : World) : Prop := Lib.TabBelow Tryd.prog B w "internal/strconv.uint64pow10" .u64 Lib.pow10Tab
/-- bytes that are owned, and what a call on them leaves -/
structure Ap (B : Nat) (w w' : World) (v : Value) (l : List UInt8) : Prop where
  own : w'.ownsRow B 5 1 v l.length (Lib.byteCells l)
  bel : Below B w w'
  oth : Lib.OthersKept 5 none w w'
theorem byteCells_append (a b : List UInt8) : Lib.byteCells (a ++ b) = Lib.byteCells a ++ Lib.byteCells b := by simp [Lib.byteCells]
theorem own_slice5 {w : World} {B n : Nat} {v : Value} {xs : List Value} (h : w.ownsRow B 5 1 v n xs) : ∃ ad cap, v = .slice ad n cap := own_slice h

theorem unh {p : Prop} (h : Hid p) : p := h
set_option maxHeartbeats 400000 in
theorem appendUint_any (B : Nat) (w : World) (v : Value) (l : List UInt8) (n : Int) (h0 : 0 ≤ n) (h1 : n < 18446744073709551616) (hown : w.ownsRow B 5 1 v l.length (Lib.byteCells l)) (hB : B ≤ w.heap.size) (hl : l.length ≤ 1000000) (hp : PowB B w) :
    Calls Tryd.prog 74 #[v, .int .u64 n, .int .i64 10] w fun e w' => ∃ v', e = .returned v' ∧ Ap B w w' v' (l ++ Lib.decDigits n.toNat) := by
  have C := Tryd.internal_strconv_AppendUint_10 B l.length n.toNat (by omega) v _ w hown hB (by omega) hp.here
  rw [show ((n.toNat : Nat) : Int) = n by omega] at C
  obtain ⟨ad, cp, hv⟩ := own_slice hown
  generalize hN : l.length = N at hv C
  have HN := hide hN
  subst hv
  clear hown hp hN
  go_enter Tryd.func74, Tryd.ntmps74
  go_wp2_with fail
  refine C.mono ?_; rintro e w' ⟨v', rfl, h2, h3, h4⟩
  have HF : Hid (Ap B w w' v' (l ++ Lib.decDigits n.toNat)) := ⟨by rw [List.length_append, byteCells_append, HN.out]; exact h2, h3, h4⟩
  obtain ⟨ad', cp', hv'⟩ := own_slice h2
  generalize N + (Lib.decDigits n.toNat).length = N' at hv'
  subst hv'
  clear C h2 h3 h4
  go_wp2
  go_ret
  exact ⟨_, rfl, HF.out⟩

theorem Ap.pow {B : Nat} {w w' : World} {v : Value} {l : List UInt8} (h : Ap B w w' v l) (hp : PowB B w) : PowB B w' := hp.on h.bel
theorem Ap.seq {B : Nat} {w w1 w' : World} {v v1 : Value} {l l1 : List UInt8} (h : Ap B w w1 v1 l1) (k : Ap B w1 w' v l) : Ap B w w' v l := ⟨k.own, h.bel.trans k.bel, h.oth.trans k.oth⟩
theorem Ap.grown {B : Nat} {w w1 w2 w3 : World} {v v' : Value} {l l' : List UInt8} (h : Ap B w w1 v l) (hB : B ≤ w1.heap.size) (o : Obj) (hw2 : w2 = w1.alloc o) (hg : w2.grownBy w3 v.ownBlock) (ho : w3.ownsRow B 5 1 v' l'.length (Lib.byteCells l')) : Ap B w w3 v' l' := by
  subst hw2
  have h2 := h.own.alloc o
  exact ⟨ho, (h.bel.alloc hB o).grown hg (by simp; omega) (fun k hk => (h.own.lt k hk).1), (h.oth.alloc o).grown hg (Lib.ownsRow_kind h2)⟩

set_option maxRecDepth 100000 in
set_option maxHeartbeats 1000000 in
theorem addWord_any (B : Nat) (w : World) (v : Value) (l : List UInt8) (s : Sg) (hs : SgB s) (hown : w.ownsRow B 5 1 v l.length (Lib.byteCells l)) (hB : B ≤ w.heap.size) (hl : l.length ≤ 900000) (hp : PowB B w) :
    Calls Tryd.prog 54 #[v, enc s] w fun e w' => ∃ v', e = .returned v' ∧ Ap B w w' v' (l ++ wrd s) := by
  have mixed : Tryd.prog.follows .mixedOrders = true := by kernel_rfl
  obtain ⟨i0, hi, hz0, hz1, hz2⟩ := info_parts info5
  have d1 := dec_len s.lo.toNat (by have := hs.l0; have := hs.l1; omega)
  have d2 := dec_len s.hi.toNat (by have := hs.h0; have := hs.h1; omega)
  have o0 := hs.o0
  have o1 := hs.o1
  have hwr : IntKind.u64.wrap s.h = s.h := by rw [IntKind.wrap_u64]; omega
  obtain ⟨O, hO⟩ : ∃ O : Obj, O = .cells #[.int .u64 s.lo, .int .u64 s.hi, .int .u8 s.h] 26 := ⟨_, rfl⟩
  have A0 : Ap B w (w.alloc O) v l := ⟨hown.alloc O, (Below.refl B w).alloc hB O, (Lib.OthersKept.refl _ _ _).alloc O⟩
  have b0 : (w.alloc O).heap[w.heap.size]? = some (.cells #[.int .u64 s.lo, .int .u64 s.hi, .int .u8 s.h] 26 (0, 0)) := by rw [hO]; exact heap_alloc_new w _
  have C1 := appendUint_any B (w.alloc O) v l s.lo hs.l0 hs.l1 A0.own (by simp; omega) (by omega) (A0.pow hp)
  have keepb : ∀ W V l', Ap B (w.alloc O) W V l' → W.heap[w.heap.size]? = some (.cells #[.int .u64 s.lo, .int .u64 s.hi, .int .u8 s.h] 26 (0, 0)) := fun W V l' h => h.oth _ _ b0 (by simp) (by intro c fz e; cases e)
  obtain ⟨x0, x1, x2⟩ := cell3 b0
  obtain ⟨ad, cp, hv⟩ := own_slice hown
  subst hO
  have HA0 := hide A0
  have HKB := hide keepb
  have HP := hide hp
  generalize hN : l.length = N at hv C1 d1 hl
  have HN := hide hN
  subst hv
  clear hown hp b0 A0 keepb hN
  simp only [enc]
  go_enter Tryd.func54, Tryd.ntmps54
  go_wp2_with fail
  refine C1.mono ?_; rintro e w1 ⟨v1, rfl, A1⟩
  obtain ⟨ad1, cp1, hv1⟩ := own_slice A1.own
  have HA1 := hide A1
  have hs1 : B ≤ w1.heap.size := Nat.le_trans hB (Nat.le_trans (by simp) A1.bel.size)
  obtain ⟨N1, hN1⟩ : ∃ N1, (l ++ Lib.decDigits s.lo.toNat).length = N1 := ⟨_, rfl⟩
  have hn1 : N1 ≤ 900020 := by rw [← hN1, List.length_append, HN.out]; omega
  rw [hN1] at hv1
  have HN1 := hide hN1
  subst hv1
  clear C1 A1 hN1 x0 x1 x2
  go_wp2_with (at_builtin; refine unh ?_)
  refine hide ?_
  refine wpList_append_own _ rfl _ _ 100 rfl B 5 i0 _ 1 1 Tryd.underlying100 hi hz0 hz1 hz2 rfl (by decide) _ N1 (Lib.byteCells (l ++ Lib.decDigits s.lo.toNat)) rfl (by have h := HA1.out.own; rw [HN1.out] at h; exact h.alloc _) ⟨w1.heap.size, 0, none⟩ 1 1 [.int .u8 45] rfl rfl (new1b _ _) (by simp [Value.oneCell']) (by unfold maxLen; omega) (by omega) (by simp; omega) ?_
  intro v2 w2 hown2 hg2 _
  have A2 : Ap B (w.alloc (.cells #[.int .u64 s.lo, .int .u64 s.hi, .int .u8 s.h] 26)) w2 v2 (l ++ Lib.decDigits s.lo.toNat ++ [45]) := HA1.out.grown (l' := l ++ Lib.decDigits s.lo.toNat ++ [45]) hs1 _ rfl hg2 (by rw [List.length_append, HN1.out, byteCells_append]; exact hown2)
  obtain ⟨ad2, cp2, hv2⟩ := own_slice A2.own
  have HA2 := hide A2
  have hs2 : B ≤ w2.heap.size := Nat.le_trans hB (Nat.le_trans (by simp) A2.bel.size)
  obtain ⟨N2, hN2⟩ : ∃ N2, (l ++ Lib.decDigits s.lo.toNat ++ [45]).length = N2 := ⟨_, rfl⟩
  have hn2 : N2 ≤ 900021 := by rw [← hN2]; have := HN.out; simp at *; omega
  rw [hN2] at hv2
  have HN2 := hide hN2
  have C2 := appendUint_any B w2 v2 (l ++ Lib.decDigits s.lo.toNat ++ [45]) s.hi hs.h0 hs.h1 A2.own hs2 (by rw [hN2]; omega) (A2.pow (HA0.out.pow HP.out))
  obtain ⟨_, y1, _⟩ := cell3 (HKB.out _ _ _ A2)
  subst hv2
  clear A2 hN2 hown2 hg2
  go_wp2_with fail
  refine C2.mono ?_; rintro e w3 ⟨v3, rfl, A3'⟩
  have A3 := HA2.out.seq A3'
  obtain ⟨ad3, cp3, hv3⟩ := own_slice A3.own
  have HA3 := hide A3
  have hs3 : B ≤ w3.heap.size := Nat.le_trans hB (Nat.le_trans (by simp) A3.bel.size)
  obtain ⟨N3, hN3⟩ : ∃ N3, (l ++ Lib.decDigits s.lo.toNat ++ [45] ++ Lib.decDigits s.hi.toNat).length = N3 := ⟨_, rfl⟩
  have hn3 : N3 ≤ 900041 := by rw [← hN3]; have := HN.out; simp at *; omega
  rw [hN3] at hv3
  have HN3 := hide hN3
  subst hv3
  clear C2 A3 A3' hN3 y1
  go_wp2_with (at_builtin; refine unh ?_)
  refine hide ?_
  refine wpList_append_own _ rfl _ _ 100 rfl B 5 i0 _ 1 1 Tryd.underlying100 hi hz0 hz1 hz2 rfl (by decide) _ N3 (Lib.byteCells (l ++ Lib.decDigits s.lo.toNat ++ [45] ++ Lib.decDigits s.hi.toNat)) rfl (by have h := HA3.out.own; rw [HN3.out] at h; exact h.alloc _) ⟨w3.heap.size, 0, none⟩ 1 1 [.int .u8 58] rfl rfl (new1b _ _) (by simp [Value.oneCell']) (by unfold maxLen; omega) (by omega) (by simp; omega) ?_
  intro v4 w4 hown4 hg4 _
  have A4 : Ap B (w.alloc (.cells #[.int .u64 s.lo, .int .u64 s.hi, .int .u8 s.h] 26)) w4 v4 (l ++ Lib.decDigits s.lo.toNat ++ [45] ++ Lib.decDigits s.hi.toNat ++ [58]) := HA3.out.grown (l' := l ++ Lib.decDigits s.lo.toNat ++ [45] ++ Lib.decDigits s.hi.toNat ++ [58]) hs3 _ rfl hg4 (by rw [List.length_append, HN3.out, byteCells_append]; exact hown4)
  obtain ⟨ad4, cp4, hv4⟩ := own_slice A4.own
  have HA4 := hide A4
  have hs4 : B ≤ w4.heap.size := Nat.le_trans hB (Nat.le_trans (by simp) A4.bel.size)
  obtain ⟨N4, hN4⟩ : ∃ N4, (l ++ Lib.decDigits s.lo.toNat ++ [45] ++ Lib.decDigits s.hi.toNat ++ [58]).length = N4 := ⟨_, rfl⟩
  have hn4 : N4 ≤ 900042 := by rw [← hN4]; have := HN.out; simp at *; omega
  rw [hN4] at hv4
  have HN4 := hide hN4
  have C3 := appendUint_any B w4 v4 (l ++ Lib.decDigits s.lo.toNat ++ [45] ++ Lib.decDigits s.hi.toNat ++ [58]) s.h o0 (by omega) A4.own hs4 (by rw [hN4]; omega) (A4.pow (HA0.out.pow HP.out))
  obtain ⟨_, _, y2⟩ := cell3 (HKB.out _ _ _ A4)
  subst hv4
  clear A4 hN4 hown4 hg4
  go_wp2_with fail
  refine C3.mono ?_; rintro e w5 ⟨v5, rfl, A5'⟩
  have A5 := (HA0.out.seq HA4.out).seq A5'
  obtain ⟨ad5, cp5, hv5⟩ := own_slice A5.own
  have HA5 := hide A5
  generalize (l ++ Lib.decDigits s.lo.toNat ++ [45] ++ Lib.decDigits s.hi.toNat ++ [58] ++ Lib.decDigits s.h.toNat).length = N5 at hv5
  subst hv5
  clear C3 A5 A5' y2
  go_wp2
  go_ret
  refine ⟨_, rfl, ?_⟩
  have h := HA5.out
  have e : l ++ Lib.decDigits s.lo.toNat ++ [45] ++ Lib.decDigits s.hi.toNat ++ [58] ++ Lib.decDigits s.h.toNat = l ++ wrd s := by simp [wrd]
  rw [e] at h
  exact h
end Go.Proofs.YtffcnonhhfhlhaaDoor.Rg
namespace Go.Proofs.YtffcnonhhfhlhaaDoor.Rg
open Go.RowKit Go.Shelf Go.Sort
open Go.Proofs.YtffcnonhhfhlhaaDoor.It
attribute [local go_sem] Oper.semAt_some
set_option linter.unusedVariables false

theorem wpListIn_append_str {F : Fence} {n : Nat} {P : Program} (w : World) {ops : Array Oper} {rest : List Oper} {o : Oper} {a : Act} {Q : Exit → Act → World → Prop}
    (hg : o.guard = none) (sl x : Operand) (t u : TypeId) (hop : o.op = Op.call { callee := Callee.builtin Builtin.append, args := #[sl, x], argTypes := #[t, u] })
    (base : Nat) (e : TypeId) (i : TypeInfo) (ht : P.underlying t = some (.slice e)) (hu : P.underlying u = some .string) (hi : P.info? e = some i) (hz : i.zero = some (.int .u8 0)) (hsize : i.size = 1) (hby : i.bytes = 1)
    (v : Value) (k : Nat) (xs : List Value) (hs : a.eval sl = v) (hown : w.ownsRow base e 1 v k xs) (s : ByteArray) (hx : a.eval x = .string s)
    (b1 : k + s.size ≤ maxLen) (b2 : k + s.size ≤ 140737488355328) (b3 : base ≤ w.heap.size)
    (hK : ∀ v' w', w'.ownsRow base e 1 v' (k + s.size) (xs ++ Lib.strCells s) → w.grownBy w' v.ownBlock → wpListIn F n P ops Q rest (a.put o.dst v') w') :
    wpListIn F n P ops Q (o :: rest) a w := by
  refine wpListIn_plain hg fun K hK' => ?_
  obtain ⟨v', w', hrun, r1, r2, r3⟩ := Lib.run_append_own_string (P := P) w base t u o.type e i ht hu hi hz hsize hby v k xs hown s b1 b2 b3
  unfold Oper.wpIn
  refine ⟨?_, ?_⟩
  · simp [Oper.about, hop, resolve, Target.leads, Sem.run_pure]
  · rw [Oper.semAt_plain F _ _ (by rw [hop]; intro c hc'; cases hc')]
    simp [execOp, hop, resolve, invoke, builtin, hs, hx, hrun, Result.andThen]
    exact hK' _ _ (hK v' w' r1 r2)

/-- the text so far, in a box -/
structure Tz (w V V' : World) (BX : Nat) (l : List UInt8) : Prop where
  box : ∃ u, V'.heap[BX]? = some (.cells #[u] 100 (0, 0)) ∧ V'.ownsRow w.heap.size 5 1 u l.length (Lib.byteCells l)
  bel : Below w.heap.size w V'
  oth : Lib.OthersKept 5 (some BX) V V'
theorem own_type5 {w : World} {B n g : Nat} {u : Value} {xs : List Value} (h : w.ownsRow B 5 1 u n xs) (hg : u.ownBlock = some g) : B ≤ g ∧ ∃ c, w.heap[g]? = some (.cells c 5 (0, 0)) := by
  obtain ⟨c, hc⟩ := own_obj h hg
  exact ⟨(h.lt g hg).1, c, hc⟩
theorem Tz.of_ap {w V V1 : World} {BX : Nat} {u0 u1 : Value} {l1 : List UInt8} (hb : V.heap[BX]? = some (.cells #[u0] 100 (0, 0))) (hBX : w.heap.size ≤ BX) (hB : Below w.heap.size w V) (A : Ap w.heap.size V V1 u1 l1) :
    V1.heap[BX]? = some (.cells #[u0] 100 (0, 0)) ∧ (V1.setCell ⟨BX, 0, none⟩ u1).heap[BX]? = some (.cells #[u1] 100 (0, 0)) ∧ (V1.setCell ⟨BX, 0, none⟩ u1).ownsRow w.heap.size 5 1 u1 l1.length (Lib.byteCells l1) ∧ Tz w V (V1.setCell ⟨BX, 0, none⟩ u1) BX l1 := by
  have hb1 : V1.heap[BX]? = some (.cells #[u0] 100 (0, 0)) := A.oth _ _ hb (by simp) (by intro c fz e; cases e)
  have hb2 : (V1.setCell ⟨BX, 0, none⟩ u1).heap[BX]? = some (.cells #[u1] 100 (0, 0)) := set3 hb1 0 u1
  have ho : (V1.setCell ⟨BX, 0, none⟩ u1).ownsRow w.heap.size 5 1 u1 l1.length (Lib.byteCells l1) := own_keep A.own (fun g hg => Below.heap_setCell _ _ _ _ (fun e => by
    obtain ⟨_, c, e3⟩ := own_type5 A.own hg
    have e2 : g = BX := e
    subst e2
    rw [hb1] at e3; cases e3))
  have hA : Lib.OthersKept 5 (some BX) V V1 := fun k o hk _ ho => A.oth k o hk (by simp) ho
  exact ⟨hb1, hb2, ho, ⟨_, hb2, ho⟩, (hB.trans A.bel).setCell hBX u1, hA.setCell _ rfl _⟩
theorem Tz.trans {w V V1 V2 : World} {BX : Nat} {l1 l2 : List UInt8} (h : Tz w V V1 BX l1) (k : Tz w V1 V2 BX l2) : Tz w V V2 BX l2 := ⟨k.box, k.bel, h.oth.trans k.oth⟩
theorem Tz.kf {w V V' : World} {BX B : Nat} {l : List UInt8} {u : Value} (hb : V.heap[BX]? = some (.cells #[u] 100 (0, 0))) (hs : V.heap.size ≤ V'.heap.size) (h : Tz w V V' BX l) : KeepsFrom B V V' :=
  ⟨hs, fun k o _ hk hc => h.oth k o hk (fun e => by cases e; rw [hb] at hk; cases hk; cases hc) (fun c fz e => by subst e; cases hc)⟩
/-- the box as the loop's word -/
structure Tx (w V : World) (BX : Nat) (l : List UInt8) : Prop where
  box : ∃ u, V.heap[BX]? = some (.cells #[u] 100 (0, 0)) ∧ V.ownsRow w.heap.size 5 1 u l.length (Lib.byteCells l)
theorem Tx.own {w : World} {BX : Nat} {β : Type} (B : Nat) (f : β → List UInt8) : OwnFrom B (fun p V => Tx w V BX (f p)) := fun p X Z row hs hg hr => by
  obtain ⟨u, h1, h2⟩ := hs.box
  refine ⟨u, own_cells (β := Unit) B _ _ _ _ () X Z row h1 hg hr, own_keep h2 (fun g e => hg.block g (own_lt h2 e) (fun e2 => ?_))⟩
  obtain ⟨_, o, ho, hc⟩ := hr g e2.symm
  obtain ⟨_, c, e3⟩ := own_type5 h2 e
  rw [e3] at ho; cases ho; cases hc
theorem Tx.nu {w V V' : World} {BX : Nat} {l : List UInt8} (h : Tx w V BX l) (k : Kp Nu V V') : Tx w V' BX l := by
  obtain ⟨u, h1, h2⟩ := h.box
  exact ⟨u, (k.block _ (blk_lt h1) (fun h => h)).trans h1, own_keep h2 (fun g e => k.block g (own_lt h2 e) (fun h => h))⟩

set_option maxHeartbeats 1000000 in
theorem all_any {B b : Nat} {w : World} {lim : Int} {v : Value} {L : List Sg} (h : Tb B w b lim v L) :
    Calls Tryd.prog 15 #[.pointer (some ⟨b, 0, none⟩)] w fun e w' => ∃ Bn r cap, e = .returned (.func (.func 73) #[] #[.pointer (some ⟨Bn, 0, none⟩)]) ∧ w'.heap[Bn]? = some (.cells #[.slice (some ⟨r, 0, none⟩) L.length cap] 22 (0, 0)) ∧ v.ownBlock = some r ∧ Kp Nu w w' := by
  have FR := from_any h 0 (by omega) (by omega)
  rw [plc_first h.tab.cov] at FR
  simp only [List.drop_zero, Nat.zero_mul] at FR
  go_enter Tryd.func15, Tryd.ntmps15
  go_wp2_with (go_at_call 44; refine FR.mono ?_; rintro e w' ⟨Bn, r, cap, rfl, h1, h2, h3, h4⟩)
  go_ret
  exact ⟨Bn, r, cap, rfl, h2, h3, h4⟩
theorem Tb.sgb {B b : Nat} {w : World} {lim : Int} {v : Value} {L : List Sg} (h : Tb B w b lim v L) : ∀ s ∈ L, SgB s := fun s hs => by
  have h1 := cov_mem h.tab.cov s hs
  have h2 := h.tab.hs s hs
  exact ⟨by omega, by omega, by omega, by omega, by omega, by omega⟩
end Go.Proofs.YtffcnonhhfhlhaaDoor.Rg
