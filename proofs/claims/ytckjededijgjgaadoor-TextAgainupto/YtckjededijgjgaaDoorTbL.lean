import Derived.Test.YtckjededijgjgaaDoorTbH
import Derived.BigQuiet
import Derived.Deep.QuietTactic
import Derived.Test.YtckjededijgjgaaDoorEncF
import Derived.Maps.AppendAt
import Derived.Deep.RegionHeld
import Derived.ProofKit
import Derived.OpenShut
import Derived.SizedLaws
import Derived.Carry
import Derived.Deep.Slices
import Derived.Deep.Fields
namespace Go.Proofs.YtckjededijgjgaaDoor.Tb
open Go.RowKit
set_option linter.unusedVariables false

set_option maxRecDepth 100000 in
set_option maxHeartbeats 2000000 in
theorem sameLines_any (l : List ByteArray) (hl : l.length ≤ 1048576) (w : World) (ad bd : Option Addr) (ca cb : Nat) (hA : Sv w ad l) (hB : Sv w bd l) :
    Calls Tryd.prog 47 #[.slice ad l.length ca, .slice bd l.length cb] w fun e w' => e = .returned (.bool true) ∧ ∃ n, w' = w.drewN n := by
  have HA := hide hA
  have HB := hide hB
  clear hA hB
  obtain ⟨N, hN⟩ : ∃ N, l.length = N := ⟨_, rfl⟩
  have HN := hide hN
  rw [hN] at hl ⊢
  clear hN
  have hNI : (N : Int) ≤ 1048576 := by omega
  go_enter Tryd.func47, Tryd.ntmps47
  go_wp2_with fail
  go_loopw [5] (fun kv wr => ∃ (k : Nat), kv = .int .i64 (k : Int) ∧ k ≤ N ∧ ∃ n, wr = w.drewN n) (fun kv _ => N - (intOf kv).toNat)
  case atStart => exact ⟨0, rfl, by omega, 0, rfl⟩
  case round =>
    obtain ⟨k, rfl, hk, n, rfl⟩ := hrel
    by_cases hlt : k < N
    · have hkl : k < l.length := by rw [HN.out]; exact hlt
      obtain ⟨g, o, rfl, hg, c0⟩ := HA.out k hkl
      obtain ⟨g2, o2, rfl, hg2, d0⟩ := HB.out k hkl
      have hltI : (k : Int) < (N : Int) := by omega
      generalize l[k] = x at *
      have bs : (x.toList == x.toList) = true := by simp
      have c0' : (w.drewN n).cell? ⟨g, o + k, none⟩ = some (.string x) := c0
      have d0' : (w.drewN n).cell? ⟨g2, o2 + k, none⟩ = some (.string x) := d0
      clear HA HB
      go_wp2_with fail
      go_quiet (fail)
      go_wp2
      exact ⟨⟨k + 1, by go_num, by omega, _, rfl⟩, by simp only [intOf]; omega⟩
    · have hge : ¬ (k : Int) < (N : Int) := by omega
      go_wp2
      go_ret
      exact ⟨rfl, n, rfl⟩

/-- lines as a slice, its block between two bounds -/
structure Rv (w : World) (ad : Option Addr) (l : List ByteArray) (lo hi : Nat) : Prop where
  sv : Sv w ad l
  at_ : ∀ a, ad = some a → lo ≤ a.block ∧ a.block < hi
theorem rv_of {w : World} {base : Nat} {v : Value} {l : List ByteArray} (h : w.ownsRow base 9 1 v l.length (sCs l)) : ∃ ad cap, v = .slice ad l.length cap ∧ Rv w ad l base w.heap.size := by
  rcases h.2 with ⟨e, h0⟩ | ⟨g, cap, cur, e, hgb, hg, h1, h2, h3, h4⟩
  · exact ⟨none, 0, by rw [e, h0], fun k hk => by omega, fun a ha => by cases ha⟩
  · refine ⟨some ⟨g, 0, none⟩, cap, e, fun k hk => ⟨g, 0, rfl, (Array.getElem?_eq_some_iff.1 hg).1, ?_⟩, fun a ha => by cases ha; exact ⟨hgb, (Array.getElem?_eq_some_iff.1 hg).1⟩⟩
    have : w.cell? ⟨g, 0 + k, none⟩ = (sCs l)[k]? := by
      rw [← h4, List.getElem?_take_of_lt (by omega), Array.getElem?_toList, Nat.zero_add]
      simp [World.cell?, hg]
    rw [this]
    simp [sCs, hk]
theorem Rv.below {w w' : World} {ad : Option Addr} {l : List ByteArray} {lo hi : Nat} (h : Rv w ad l lo hi) (hb : Below w.heap.size w w') : Rv w' ad l lo hi := ⟨h.sv.below hb (Nat.le_refl _), h.at_⟩
theorem Rv.drewN {w : World} {ad : Option Addr} {l : List ByteArray} {lo hi : Nat} (h : Rv w ad l lo hi) (n : Nat) : Rv (w.drewN n) ad l lo hi := h.below (below_drewN (Below.refl _ w) n)
theorem Rv.grown {w w' : World} {ad : Option Addr} {l : List ByteArray} {lo hi : Nat} {o : Option Nat} (h : Rv w ad l lo hi) (hg : w.grownBy w' o) (hne : ∀ k, lo ≤ k → k < hi → some k ≠ o) : Rv w' ad l lo hi := by
  refine ⟨fun k hk => ?_, h.at_⟩
  obtain ⟨g, off, h0, h1, c0⟩ := h.sv k hk
  obtain ⟨a1, a2⟩ := h.at_ _ h0
  have hb := hg.block g h1 (hne g a1 a2)
  exact ⟨g, off, h0, Nat.lt_of_lt_of_le h1 hg.size, (World.cell?_of_block (a := ⟨g, off + k, none⟩) hb).trans c0⟩
/-- lines stand while a row of another type grows -/
theorem own9_keep {w0 w1 : World} {base base' n m : Nat} {v u : Value} {l l' : List Value} (h9 : w0.ownsRow base 9 1 v n l) (h34 : w0.ownsRow base' 34 1 u m l') (hg : w0.grownBy w1 u.ownBlock) : w1.ownsRow base 9 1 v n l := by
  obtain ⟨hl, ho⟩ := h9
  refine ⟨hl, ?_⟩
  rcases ho with ho | ⟨g, cap, cur, e1, e2, hgb, e3⟩
  · exact .inl ho
  · refine .inr ⟨g, cap, cur, e1, e2, (hg.block g (Array.getElem?_eq_some_iff.1 hgb).1 ?_).trans hgb, e3⟩
    intro he
    rcases h34.2 with ⟨hv0, _⟩ | ⟨g', cap', cur', hv0, _, hg', _⟩
    · rw [hv0] at he; cases he
    · rw [hv0] at he; cases he
      rw [hgb] at hg'
      cases hg'
theorem info34 : (Tryd.prog.info? 34).map (fun i => (i.zero, i.size, i.bytes)) = some (some (.slice none 0 0), 1, 24) := by kernel_rfl
theorem newR (W : World) (z : Value) (hz : z.cells = #[z]) (j : Nat) (u : Value) (h : ([z] : List Value)[j]? = some u) : (W.alloc (.cells #[z] 34)).cell? ((⟨W.heap.size, 0, none⟩ : Addr).add j) = some u := by
  rw [Pc.addP, World.cell?_alloc_new, Nat.zero_add]
  simpa using h
/-- rows copied, in memory -/
def Kp (w : World) (base : Nat) (cs : List Value) (rows : List (List ByteArray)) : Prop := ∀ i (hi : i < rows.length), ∃ v, cs[i]? = some v ∧ w.ownsRow base 9 1 v rows[i].length (sCs rows[i])
theorem kp_rs {w : World} {base : Nat} {v : Value} {cs : List Value} {rows : List (List ByteArray)} (h : w.ownsRow base 34 1 v rows.length cs) (hk : Kp w base cs rows) : ∃ ad cap, v = .slice ad rows.length cap ∧ Rs w ad rows := by
  rcases h.2 with ⟨e, h0⟩ | ⟨g, cap, cur, e, hgb, hg, h1, h2, h3, h4⟩
  · exact ⟨none, 0, by rw [e, h0], fun k hk => by omega⟩
  · refine ⟨some ⟨g, 0, none⟩, cap, e, fun i hi => ?_⟩
    obtain ⟨u, hu, ho⟩ := hk i hi
    obtain ⟨ad, cp, rfl, hR⟩ := rv_of ho
    refine ⟨g, 0, ad, cp, rfl, (Array.getElem?_eq_some_iff.1 hg).1, ?_, hR.sv⟩
    rw [← hu, ← h4, List.getElem?_take_of_lt (by omega), Array.getElem?_toList, Nat.zero_add]
    simp [World.cell?, hg]
theorem kp_snoc {w0 w1 : World} {base : Nat} {u v : Value} {cs : List Value} {n : Nat} {rows : List (List ByteArray)} {row : List ByteArray} (h34 : w0.ownsRow base 34 1 u n cs) (hn : n = rows.length) (hk : Kp w0 base cs rows) (h9 : w0.ownsRow base 9 1 v row.length (sCs row)) (hg : w0.grownBy w1 u.ownBlock) : Kp w1 base (cs ++ [v]) (rows ++ [row]) := by
  have hcl : cs.length = rows.length := by have := h34.1; omega
  intro i hi
  by_cases hlt : i < rows.length
  · obtain ⟨x, hx, ho⟩ := hk i hlt
    refine ⟨x, by rw [List.getElem?_append_left (by omega)]; exact hx, ?_⟩
    rw [List.getElem_append_left hlt]
    exact own9_keep ho h34 hg
  · have hi' : i = rows.length := by simp at hi; omega
    subst hi'
    refine ⟨v, by rw [List.getElem?_append_right (by omega), hcl]; simp, ?_⟩
    simp only [List.getElem_concat_length]
    exact own9_keep h9 h34 hg
theorem kp_below {w w' : World} {base : Nat} {cs : List Value} {rows : List (List ByteArray)} (h : Kp w base cs rows) (hb : Below w.heap.size w w') : Kp w' base cs rows := fun i hi => by
  obtain ⟨v, hv, ho⟩ := h i hi
  exact ⟨v, hv, ownT_below ho hb⟩
theorem gb_refl (w : World) (o : Option Nat) : w.grownBy w o := ⟨rfl, rfl, rfl, Nat.le_refl _, fun _ _ _ => rfl⟩
theorem gb_set {w w1 : World} {g : Nat} (h : w.grownBy w1 (some g)) (j : Nat) (u : Value) : w.grownBy (w1.setCell ⟨g, j, none⟩ u) (some g) :=
  ⟨h.os, h.tape, h.output, by have := h.size; simp [World.setCell]; exact this, fun k hk hne => (Below.heap_setCell _ _ _ _ (fun e => hne (by rw [e]))).trans (h.block k hk hne)⟩
theorem gb_alloc {w w1 : World} {o : Option Nat} (h : w.grownBy w1 o) (x : Obj) : w.grownBy (w1.alloc x) o := by
  have hb := (Below.refl w1.heap.size w1).alloc (Nat.le_refl _) x
  exact ⟨hb.os.trans h.os, hb.tape.trans h.tape, hb.output.trans h.output, Nat.le_trans h.size hb.size, fun k hk hne => (hb.block k (Nat.lt_of_lt_of_le hk h.size)).trans (h.block k hk hne)⟩
theorem gb_trans {w w1 w2 : World} {o o' : Option Nat} (h : w.grownBy w1 o) (h' : w1.grownBy w2 o') (ho : o' = o ∨ ∀ k, o' = some k → w.heap.size ≤ k) : w.grownBy w2 o := by
  refine ⟨h'.os.trans h.os, h'.tape.trans h.tape, h'.output.trans h.output, Nat.le_trans h.size h'.size, fun k hk hne => ?_⟩
  refine (h'.block k (Nat.lt_of_lt_of_le hk h.size) (fun e => ?_)).trans (h.block k hk hne)
  rcases ho with rfl | ho
  · exact hne e
  · have := ho k e.symm; omega
end Go.Proofs.YtckjededijgjgaaDoor.Tb
namespace Go.Proofs.YtckjededijgjgaaDoor.Tb
open Go.RowKit
open Go.Proofs.YtckjededijgjgaaDoor.Wd (Cols)
open Go.Proofs.YtckjededijgjgaaDoor.Enc (Spans)
set_option linter.unusedVariables false

theorem table_len (rows : List (List ByteArray)) : (tableG rows).1.length ≤ 256 := by
  unfold tableG
  split
  · simp
  · split
    · simp
    · simp; omega
def lit : List (List ByteArray) := [[⟨#[97]⟩, ⟨#[98]⟩], [⟨#[99, 99]⟩]]
theorem lit_small : ∀ r ∈ lit, ∀ c ∈ r, c.size ≤ 1048576 := by
  intro r hr c hc
  simp only [lit, List.mem_cons, List.not_mem_nil, or_false] at hr
  rcases hr with rfl | rfl
  · simp only [List.mem_cons, List.not_mem_nil, or_false] at hc
    rcases hc with rfl | rfl <;> decide
  · simp only [List.mem_cons, List.not_mem_nil, or_false] at hc
    subst hc; decide
theorem lit_rs (W : World) : Rs (((W.alloc (.cells #[.string ⟨#[97]⟩, .string ⟨#[98]⟩] 9)).alloc (.cells #[.string ⟨#[99, 99]⟩] 9)).alloc (.cells #[.slice (some ⟨W.heap.size, 0, none⟩) 2 2, .slice (some ⟨W.heap.size + 1, 0, none⟩) 1 1] 34)) (some ⟨W.heap.size + 2, 0, none⟩) lit := by
  have b1 := (Below.refl (W.heap.size + 1) (W.alloc (.cells #[.string ⟨#[97]⟩, .string ⟨#[98]⟩] 9))).alloc (by simp) (.cells #[.string ⟨#[99, 99]⟩] 9)
  have b2 := (Below.refl (W.heap.size + 2) ((W.alloc (.cells #[.string ⟨#[97]⟩, .string ⟨#[98]⟩] 9)).alloc (.cells #[.string ⟨#[99, 99]⟩] 9))).alloc (by simp) (.cells #[.slice (some ⟨W.heap.size, 0, none⟩) 2 2, .slice (some ⟨W.heap.size + 1, 0, none⟩) 1 1] 34)
  have e1 := World.alloc_heap_new W (.cells #[.string ⟨#[97]⟩, .string ⟨#[98]⟩] 9)
  have e2 := World.alloc_heap_new (W.alloc (.cells #[.string ⟨#[97]⟩, .string ⟨#[98]⟩] 9)) (.cells #[.string ⟨#[99, 99]⟩] 9)
  have e3 := World.alloc_heap_new ((W.alloc (.cells #[.string ⟨#[97]⟩, .string ⟨#[98]⟩] 9)).alloc (.cells #[.string ⟨#[99, 99]⟩] 9)) (.cells #[.slice (some ⟨W.heap.size, 0, none⟩) 2 2, .slice (some ⟨W.heap.size + 1, 0, none⟩) 1 1] 34)
  simp only [World.size_alloc] at e2 e3
  have f1 := (b2.block W.heap.size (by omega)).trans ((b1.block W.heap.size (by omega)).trans e1)
  have f2 := (b2.block (W.heap.size + 1) (by omega)).trans e2
  have hsz : (((W.alloc (.cells #[.string ⟨#[97]⟩, .string ⟨#[98]⟩] 9)).alloc (.cells #[.string ⟨#[99, 99]⟩] 9)).alloc (.cells #[.slice (some ⟨W.heap.size, 0, none⟩) 2 2, .slice (some ⟨W.heap.size + 1, 0, none⟩) 1 1] 34)).heap.size = W.heap.size + 3 := by simp
  generalize ((W.alloc (.cells #[.string ⟨#[97]⟩, .string ⟨#[98]⟩] 9)).alloc (.cells #[.string ⟨#[99, 99]⟩] 9)).alloc (.cells #[.slice (some ⟨W.heap.size, 0, none⟩) 2 2, .slice (some ⟨W.heap.size + 1, 0, none⟩) 1 1] 34) = V at *
  intro i hi
  match i, hi with
  | 0, _ =>
    refine ⟨W.heap.size + 2, 0, some ⟨W.heap.size, 0, none⟩, 2, rfl, by omega, by simp [World.cell?, e3, lit], ?_⟩
    intro k hk
    match k, hk with
    | 0, _ => exact ⟨W.heap.size, 0, rfl, by omega, by simp [World.cell?, f1, lit]⟩
    | 1, _ => exact ⟨W.heap.size, 0, rfl, by omega, by simp [World.cell?, f1, lit]⟩
  | 1, _ =>
    refine ⟨W.heap.size + 2, 0, some ⟨W.heap.size + 1, 0, none⟩, 1, rfl, by omega, by simp [World.cell?, e3, lit], ?_⟩
    intro k hk
    match k, hk with
    | 0, _ => exact ⟨W.heap.size + 1, 0, rfl, by omega, by simp [World.cell?, f2, lit]⟩
theorem lit_below (W : World) : Below W.heap.size W (((W.alloc (.cells #[.string ⟨#[97]⟩, .string ⟨#[98]⟩] 9)).alloc (.cells #[.string ⟨#[99, 99]⟩] 9)).alloc (.cells #[.slice (some ⟨W.heap.size, 0, none⟩) 2 2, .slice (some ⟨W.heap.size + 1, 0, none⟩) 1 1] 34)) :=
  (((Below.refl _ _).alloc (Nat.le_refl _) _).alloc (by simp) _).alloc (by simp; omega) _
theorem same_v {l : List ByteArray} (hl : l.length ≤ 256) {w : World} {ad bd : Option Addr} {a b c d : Nat} (ca cb : Nat) (hA : Rv w ad l a b) (hB : Rv w bd l c d) :
    Calls Tryd.prog 47 #[.slice ad l.length ca, .slice bd l.length cb] w fun e w' => e = .returned (.bool true) ∧ Below w.heap.size w w' :=
  (sameLines_any l (by omega) w ad bd ca cb hA.sv hB.sv).mono fun e w' ⟨he, n, hw⟩ => ⟨he, by rw [hw]; exact below_drewN (Below.refl _ w) n⟩
theorem own9_at {w : World} {base n cap : Nat} {ad : Option Addr} {xs : List Value} (h : w.ownsRow base 9 1 (.slice ad n cap) n xs) (k : Nat) (hk : (Value.slice ad n cap).ownBlock = some k) : base ≤ k ∧ k < w.heap.size := by
  rcases own1_slice h with ⟨g, cp, e, h1, h2, _⟩ | ⟨e, _⟩
  · cases e; cases hk; exact ⟨h1, h2⟩
  · cases e; cases hk
end Go.Proofs.YtckjededijgjgaaDoor.Tb
namespace Go.Proofs.YtckjededijgjgaaDoor.Tb
open Go.RowKit
open Go.Proofs.YtckjededijgjgaaDoor.Wd (Cols)
open Go.Proofs.YtckjededijgjgaaDoor.Enc (Spans)
set_option linter.unusedVariables false

set_option maxRecDepth 100000 in
set_option maxHeartbeats 16000000 in
theorem tablesLaw_walk (CO : Cols) (rows : List (List ByteArray)) (hn : rows.length ≤ 1048576) (hr : ∀ r ∈ rows, r.length ≤ 1048576) (hz : ∀ r ∈ rows, ∀ c ∈ r, c.size ≤ 1048576) (w : World) (ad : Option Addr) (cap : Nat) (hV : Rs w ad rows) (R off cap' : Nat) (hS : Spans w R off cap') :
    Calls Tryd.prog 17 #[.slice ad rows.length cap] w fun e w' => e = .returned (.bool true) ∧ Below w.heap.size w w' := by
  obtain ⟨i0, hi0, hz0, hz1, hz2⟩ := info_parts info9
  obtain ⟨k0, hk0, kz0, kz1, kz2⟩ := info_parts info34
  have nm := fun n w => Enc.num_any n w
  have hl1 := table_len rows
  have hl2 := table_len lit
  have R1 := fun (W : World) (ad' : Option Addr) (cp' : Nat) (hv : Rs W ad' rows) => refTable_of CO rows hz W ad' cp' hv
  have T1 := fun (W : World) (hb : Below w.heap.size w W) => table_any rows hz W ad cap (hV.below hb (Nat.le_refl _)) R off cap' (hS.below hb (Nat.le_refl _))
  have R2 : ∀ (W : World) (ad' : Option Addr) (cp' : Nat) (hv : Rs W ad' lit), Calls Tryd.prog 45 #[.slice ad' 2 cp'] W fun e w' => TA W (tableG lit) e w' := fun W ad' cp' hv => refTable_of CO lit lit_small W ad' cp' hv
  have T2 : ∀ (W : World) (hb : Below w.heap.size w W) (ad' : Option Addr) (cp' : Nat) (hv : Rs W ad' lit), Calls Tryd.prog 46 #[.slice ad' 2 cp'] W fun e w' => TA W (tableG lit) e w' := fun W hb ad' cp' hv => table_any lit lit_small W ad' cp' hv R off cap' (hS.below hb (Nat.le_refl _))
  have HRL := hide (fun i (hi : i < rows.length) => hr rows[i] (List.getElem_mem hi))
  have HVV := hide hV
  have HT0 : Hid (rows.take rows.length = rows) := List.take_length
  have HTS : Hid (∀ i (hi : i < rows.length), rows.take (i + 1) = rows.take i ++ [rows[i]]) := fun i hi => List.take_succ_eq_append_getElem hi
  have HTL : Hid (∀ i, i ≤ rows.length → (rows.take i).length = i) := fun i hi => by rw [List.length_take]; omega
  obtain ⟨L, P, E, hW1⟩ : ∃ L P E, tableG rows = (L, P, E) := ⟨_, _, _, rfl⟩
  obtain ⟨L2, P2, E2, hW2⟩ : ∃ L P E, tableG lit = (L, P, E) := ⟨_, _, _, rfl⟩
  rw [hW1] at hl1 R1 T1
  rw [hW2] at hl2 R2 T2
  simp only at hl1 hl2
  clear hW1 hW2 hz hr hV hS
  obtain ⟨N, hN⟩ : ∃ N, rows.length = N := ⟨_, rfl⟩
  have HN := hide hN
  rw [hN] at hn R1 T1 ⊢
  clear hN
  have hNI : (N : Int) ≤ 1048576 := by omega
  have HR1 := hide R1
  have HT1 := hide T1
  have HR2 := hide R2
  have HT2 := hide T2
  have bp : (P == P) = true := by simp
  have be : (E == E) = true := by simp
  clear R1 T1 R2 T2
  go_enter Tryd.func17, Tryd.ntmps17
  go_wp2_with fail
  go_loopw [3, 4] (fun v kv wr => ∃ (i : Nat) (cs : List Value), kv = .int .i64 (i : Int) ∧ i ≤ N ∧ Below w.heap.size w wr ∧ wr.ownsRow w.heap.size 34 1 v i cs ∧ Hid (Kp wr w.heap.size cs (rows.take i))) (fun _ kv _ => N - (intOf kv).toNat)
  case atStart => exact ⟨0, [], rfl, by omega, Below.refl _ _, World.ownsRow_nil _ _ _ _, fun i hi => by simp at hi⟩
  case round =>
    generalize wr = wl at *
    obtain ⟨i, cs, rfl, hi, hB, hrow, HKP⟩ := hrel
    by_cases hlt : i < N
    · have hil : i < rows.length := by rw [HN.out]; exact hlt
      have hltI : (i : Int) < (N : Int) := by omega
      obtain ⟨g, o, adr, cp, rfl, hg, c00, hv⟩ := HVV.out i hil
      have hBs := hB.size
      have hgl : g < wl.heap.size := by omega
      have c01 := (hB.cell (p := ⟨g, o + i, none⟩) hg).trans c00
      have HSV := hide (hv.below hB (Nat.le_refl _))
      have hM := HRL.out i hil
      have HTS2 := hide (HTS.out i hil)
      have HTL2 := hide (HTL.out i (by omega))
      generalize rows[i] = row at *
      obtain ⟨M, hMe⟩ : ∃ M, row.length = M := ⟨_, rfl⟩
      have HM := hide hMe
      rw [hMe] at c01 hM
      clear hMe c00 hv HVV HR1 HT1 HR2 HT2 HRL HT0 HTS HTL
      have hMI : (M : Int) ≤ 1048576 := by omega
      go_wp2_with fail
      go_loopw [5, 6] (fun v kv wq => ∃ (j : Nat), kv = .int .i64 (j : Int) ∧ j ≤ M ∧ Below wl.heap.size wl wq ∧ wq.ownsRow wl.heap.size 9 1 v j (sCs (row.take j))) (fun _ kv _ => M - (intOf kv).toNat)
      case atStart => exact ⟨0, rfl, by omega, Below.refl _ _, World.ownsRow_nil _ _ _ _⟩
      case round =>
        generalize wr = wq at *
        obtain ⟨j, rfl, hj, hBq, hrq⟩ := hrel
        have c0 := (hBq.cell (p := ⟨g, o + i, none⟩) hgl).trans c01
        have hBqs := hBq.size
        by_cases hltj : j < M
        · have hjr : j < row.length := by rw [HM.out]; exact hltj
          have hjI : (j : Int) < (M : Int) := by omega
          obtain ⟨g2, o2, rfl, hg2, d00⟩ := HSV.out j hjr
          have d0 := (hBq.cell (p := ⟨g2, o2 + j, none⟩) hg2).trans d00
          have HSN : Hid (sCs (row.take (j + 1)) = sCs (row.take j) ++ [.string row[j]]) := by
            show _ = _
            rw [List.take_succ_eq_append_getElem hjr]
            simp only [sCs, List.map_append, List.map_cons, List.map_nil]
          generalize hc : row[j] = c at *
          clear d00 HSV hc
          go_wp2_with (at_builtin; refine wpList_append_own _ rfl _ _ 34 rfl wl.heap.size 9 i0 _ 1 16 Tryd.underlying34 hi0 hz0 hz1 hz2 rfl (by decide) _ _ _ rfl (hrq.alloc _) ⟨wq.heap.size, 0, none⟩ 1 1 [.string c] rfl rfl (newS _ _) (by simp [Value.oneCell']) ?r1 ?r2 ?r3 ?_; rotate_left 3; intro v' w3 hown' hgrow _)
          · have hB3 := ownT_grown (hrq.alloc _) (hBq.alloc hBq.size _) (by simp; omega) hgrow
            exact ⟨⟨j + 1, by go_num, by omega, hB3, by rw [HSN.out]; exact hown'⟩, by simp only [intOf]; omega⟩
          all_goals (try (case r1 => unfold maxLen; omega))
          all_goals (try (case r2 => omega))
          all_goals (try (case r3 => (try simp); omega))
        · have hge : ¬ (j : Int) < (M : Int) := by omega
          have hje : j = row.length := by rw [HM.out]; omega
          rw [hje, List.take_length] at hrq
          have hrq2 := ownT_base hrq hB.size
          obtain ⟨ad5, cp5, rfl, _⟩ := rv_of hrq
          have hBq2 := hB.trans (hBq.mono hB.size)
          have hBqs2 := hBq2.size
          have hrow2 := (ownT_below hrow hBq).alloc (.cells #[.slice ad5 row.length cp5] 34)
          have hrq3 := hrq2.alloc (.cells #[.slice ad5 row.length cp5] 34)
          have HKP2 := hide (kp_below (kp_below HKP.out hBq) ((Below.refl wq.heap.size wq).alloc (Nat.le_refl _) (.cells #[.slice ad5 row.length cp5] 34)))
          clear HSV hrq hrq2 HKP hrow hje
          go_wp2_with (at_builtin; refine wpList_append_own _ rfl _ _ 67 rfl w.heap.size 34 k0 _ 1 24 Tryd.underlying67 hk0 kz0 kz1 kz2 rfl (by decide) _ _ _ rfl hrow2 ⟨wq.heap.size, 0, none⟩ 1 1 [.slice ad5 row.length cp5] rfl rfl (newR _ _ rfl) (by simp [Value.oneCell']) ?s1 ?s2 ?s3 ?_; rotate_left 3; intro v' w3 hown' hgrow _)
          · have hB3 := ownT_grown hrow2 (hBq2.alloc hBq2.size _) (by simp; omega) hgrow
            have HK3 := kp_snoc hrow2 HTL2.out.symm HKP2.out hrq3 hgrow
            exact ⟨⟨i + 1, _, by go_num, by omega, hB3, hown', by show Kp _ _ _ _; rw [HTS2.out]; exact HK3⟩, by simp only [intOf]; omega⟩
          all_goals (try (case s1 => unfold maxLen; omega))
          all_goals (try (case s2 => omega))
          all_goals (try (case s3 => (try simp); omega))
    · have hge : ¬ (i : Int) < (N : Int) := by omega
      have hiN : i = rows.length := by rw [HN.out]; omega
      rw [hiN] at hrow HKP
      rw [HT0.out] at HKP
      obtain ⟨adK, cpK, rfl, hKs⟩ := kp_rs hrow HKP.out
      generalize wl = w1 at *
      have C0 := HR1.out w1 adK cpK hKs
      have HKS := hide hKs
      have hB1 := hB
      have hN2 := HN.out
      rw [hN2]
      clear hrow HKP hKs hB HTS HTL HT0 hiN hlt hi hN2
      go_wp2_with fail
      refine C0.mono ?_; rintro e w2 ⟨vW, rfl, hrW, hb2⟩
      obtain ⟨adW, cpW, rfl, rW2⟩ := rv_of hrW
      have hB2 := hB1.trans (hb2.mono hB1.size)
      have C1 := HT1.out w2 hB2
      clear C0 hrW
      go_wp2_with fail
      refine C1.mono ?_; rintro e w3 ⟨vA, rfl, hrA, hb3⟩
      have hB3 := hB2.trans (hb3.mono hB2.size)
      obtain ⟨adA, cpA, rfl, rA3⟩ := rv_of hrA
      have rW3 := rW2.below hb3
      clear C1 rW2
      simp only at hrA
      go_wp2_with fail
      refine (same_v hl1 cpA cpW rA3 rW3).mono ?_; rintro e w4 ⟨rfl, hb4⟩
      have hB4 := hB3.trans (hb4.mono hB3.size)
      have hrA4 := own1_below hrA hb4
      have rA4 := rA3.below hb4
      have rW4 := rW3.below hb4
      go_wp2_with fail
      refine (nm _ _).mono ?_; rintro e w5 ⟨rfl, hw⟩; obtain rfl := hw.symm
      have bl4 := lit_below w4
      have C2 := HT2.out _ (hB4.trans (bl4.mono hB4.size)) _ 2 (lit_rs w4)
      go_wp2_with fail
      refine C2.mono ?_; rintro e w6 ⟨vX, rfl, hrX, hb6'⟩
      have hb6 := bl4.trans (hb6'.mono bl4.size)
      have hB6 := hB4.trans (hb6.mono hB4.size)
      have hrX2 := ownT_base hrX bl4.size
      obtain ⟨adX, cpX, rfl, rX6⟩ := rv_of hrX2
      have C3 := HT1.out w6 hB6
      clear C2 HT2 hrX hrX2 hb6' bl4
      go_wp2_with fail
      refine C3.mono ?_; rintro e w7 ⟨vB, rfl, hrB, hb7⟩
      have hB7 := hB6.trans (hb7.mono hB6.size)
      obtain ⟨adB, cpB, rfl, rB7⟩ := rv_of hrB
      have bl7 := lit_below w7
      have C4 := HR2.out _ _ 2 (lit_rs w7)
      clear C3 HR2 hrB HT1 HR1
      go_wp2_with fail
      refine C4.mono ?_; rintro e w8 ⟨vY, rfl, hrY, hb8'⟩
      have hb8 := bl7.trans (hb8'.mono bl7.size)
      have hB8 := hB7.trans (hb8.mono hB7.size)
      have hrY2 := ownT_base hrY bl7.size
      obtain ⟨adY, cpY, rfl, rY8⟩ := rv_of hrY2
      clear C4 hrY hrY2 hb8' bl7
      have rW8 := ((rW4.below hb6).below hb7).below hb8
      have rA8 := ((rA4.below hb6).below hb7).below hb8
      have rX8 := (rX6.below hb7).below hb8
      have rB8 := rB7.below hb8
      have hrA8 := own1_below (own1_below (own1_below hrA4 hb6) hb7) hb8
      clear rW4 rA4 rX6 rB7 hrA4
      go_wp2_with fail
      refine (same_v hl1 cpA cpW rA8 rW8).mono ?_; rintro e w9 ⟨rfl, hb9⟩
      go_wp2_with fail
      refine (same_v hl1 cpB cpW (rB8.below hb9) (rW8.below hb9)).mono ?_; rintro e w10 ⟨rfl, hb10⟩
      go_wp2_with fail
      refine (same_v hl2 cpX cpY ((rX8.below hb9).below hb10) ((rY8.below hb9).below hb10)).mono ?_; rintro e w11 ⟨rfl, hb11⟩
      have hb79 := (hb9.trans (hb10.mono hb9.size)).trans (hb11.mono (Nat.le_trans hb9.size hb10.size))
      have z1 := hB1.size
      have z2 := hb2.size
      have z3 := hb3.size
      have z4 := hb4.size
      have z6 := hb6.size
      have z7 := hb7.size
      have z8 := hb8.size
      have z79 := hb79.size
      have hD11 : Below w1.heap.size w1 w11 := (((((hb2.trans (hb3.mono (by omega))).trans (hb4.mono (by omega))).trans (hb6.mono (by omega))).trans (hb7.mono (by omega))).trans (hb8.mono (by omega))).trans (hb79.mono (by omega))
      have rW9 := rW8.below hb79
      have rX9 := rX8.below hb79
      have rB9 := rB8.below hb79
      have rY9 := rY8.below hb79
      have hrA9 := own1_below hrA8 hb79
      have zD := hD11.size
      have oA : ∀ k, (Value.slice adA L.length cpA).ownBlock = some k → w2.heap.size ≤ k ∧ k < w3.heap.size := fun k hk => own9_at hrA k hk
      clear hb2 hb3 hb4 hb6 hb7 hb8 hb9 hb10 hb11 hb79 rW3 rA3 hrA rA8 rW8 rX8 rB8 rY8 hrA8 hB2 hB3 hB4 hB6 hB7 hB8
      have HOA := hide oA
      clear oA
      obtain ⟨n0, hn0⟩ : ∃ n0, L.length = n0 := ⟨_, rfl⟩
      have hn64 : n0 ≤ 256 := by omega
      have hnI : (n0 : Int) ≤ 256 := by omega
      have HFA : Hid (∀ k, w.heap.size ≤ k → k < w2.heap.size → some k ≠ (Value.slice adA L.length cpA).ownBlock) := fun k h1 h2 e => by have := HOA.out k e.symm; omega
      have HFX : Hid (∀ k, w4.heap.size ≤ k → some k ≠ (Value.slice adA L.length cpA).ownBlock) := fun k h1 e => by have := HOA.out k e.symm; omega
      rw [hn0] at HFA HFX hrA9
      have SB := fun (W : World) (ad bd : Option Addr) (a b c d ca cb : Nat) (h1 : Rv W ad L a b) (h2 : Rv W bd L c d) => same_v hl1 ca cb h1 h2
      have SX := fun (W : World) (ad bd : Option Addr) (a b c d ca cb : Nat) (h1 : Rv W ad L2 a b) (h2 : Rv W bd L2 c d) => same_v hl2 ca cb h1 h2
      rw [hn0] at SB
      have HSB := hide SB
      have HSX := hide SX
      clear SB SX HOA
      go_wp2_with fail
      try rw [hn0]
      clear hn0 hl1
      have HRY : Hid (Rv w11 adY L2 w7.heap.size w8.heap.size) := rY9
      obtain ⟨xA, hxA⟩ : ∃ xs, sCs L = xs := ⟨_, rfl⟩
      rw [hxA] at hrA9
      clear hxA rY9
      go_loopw [23] (fun kv wr => ∃ (k : Nat) (xs : List Value), kv = .int .i64 (k : Int) ∧ k ≤ n0 ∧ wr.ownsRow w2.heap.size 9 1 (.slice adA n0 cpA) n0 xs ∧ w11.grownBy wr (Value.slice adA n0 cpA).ownBlock ∧ Below w1.heap.size w1 wr) (fun kv _ => n0 - (intOf kv).toNat)
      case atStart => exact ⟨0, _, rfl, by omega, hrA9, gb_refl _ _, hD11⟩
      case round =>
        obtain ⟨k, xs, rfl, hk, hrow, hgb, hB⟩ := hrel
        by_cases hlt : k < n0
        · have hltI : (k : Int) < (n0 : Int) := by omega
          rcases own1_slice hrow with ⟨g, cp, e, hg0, hg1, hcp, cur, hcur, hcs⟩ | ⟨_, e⟩
          · cases e
            obtain ⟨c1, f1⟩ := own1_cell hrow hlt
            have hxl : xs.length = n0 := by have := hrow.1; omega
            rw [List.getElem?_eq_getElem (by omega)] at c1
            have s1 := own1_set hrow k hlt (.string ⟨#[115, 112, 111, 105, 108, 116]⟩)
            have g3 := gb_set (g := g) hgb k (.string ⟨#[115, 112, 111, 105, 108, 116]⟩)
            have b3 := hB.setCell (p := ⟨g, k, none⟩) (show w1.heap.size ≤ g by omega) (.string ⟨#[115, 112, 111, 105, 108, 116]⟩)
            clear hrow hgb hcur
            go_wp2
            exact ⟨⟨k + 1, _, by go_num, by omega, s1, g3, b3⟩, by simp only [intOf]; omega⟩
          · omega
        · have hge : ¬ (k : Int) < (n0 : Int) := by omega
          clear hrA9 hlt hk hD11
          go_wp2_with fail
          go_loopw [10, 24] (fun v kv wr => ∃ (k : Nat) (xs : List Value), kv = .int .i64 (k : Int) ∧ k ≤ 40 ∧ wr.ownsRow w2.heap.size 9 1 v (n0 + k) xs ∧ Hid (v.ownBlock = (Value.slice adA n0 cpA).ownBlock ∨ ∀ g, v.ownBlock = some g → w11.heap.size ≤ g) ∧ w11.grownBy wr (Value.slice adA n0 cpA).ownBlock ∧ Below w1.heap.size w1 wr) (fun _ kv _ => 40 - (intOf kv).toNat)
          case atStart => exact ⟨0, _, rfl, by omega, hrow, .inl rfl, hgb, hB⟩
          case round =>
            clear hrow hgb hB
            obtain ⟨k, xs, rfl, hk, hrow, HOW, hgb, hB⟩ := hrel
            have hBs := hB.size
            have hgs := hgb.size
            by_cases hlt : k < 40
            · have hltI : (k : Int) < 40 := by omega
              go_wp2_with (first | (at_builtin; refine wpList_append_own_at _ rfl _ _ 34 rfl w2.heap.size 9 i0 _ 1 16 Tryd.underlying34 hi0 hz0 hz1 hz2 rfl (by decide) _ _ _ rfl (hrow.alloc _) ⟨wr.heap.size, 0, none⟩ 1 1 [.string ⟨#[109, 111, 114, 101]⟩] rfl rfl (newS _ _) (by simp [Value.oneCell']) ?sa ?sb ?sc ?_; rotate_left 3; intro v5 w5' hown5 hgrow5 _ hob5))
              · have hB5 := (hB.alloc hB.size _).grown hgrow5 (by simp; omega) (fun j ej => by
                  rcases hrow.2 with ⟨hv0, _⟩ | ⟨g, cap, cur, hv0, hgb, _⟩
                  · rw [hv0] at ej; cases ej
                  · rw [hv0] at ej; cases ej; exact Nat.le_trans z2 hgb)
                have hob6 : v5.ownBlock = u10.ownBlock ∨ v5.ownBlock = some (wr.alloc (.cells #[.string ⟨#[109, 111, 114, 101]⟩] 9)).heap.size := hob5
                clear hob5
                refine ⟨⟨k + 1, _, by go_num, by omega, hown5, ?_, ?_, hB5⟩, by simp only [intOf]; omega⟩
                · rcases hob6 with e | e
                  · rcases HOW.out with h | h
                    · exact .inl (by rw [e]; exact h)
                    · exact .inr (fun g hg => h g (by rw [← e]; exact hg))
                  · refine .inr (fun g hg => ?_)
                    rw [e] at hg
                    cases hg
                    simp
                    omega
                · refine gb_trans (gb_alloc hgb _) hgrow5 ?_
                  exact HOW.out
              case sa => unfold maxLen; omega
              case sb => omega
              case sc => (try simp); omega
            · have hge2 : ¬ (k : Int) < 40 := by omega
              have hk40 : k = 40 := by omega
              obtain ⟨adF, cpF, hvF⟩ : ∃ ad cp, u10 = .slice ad (n0 + 40) cp := by
                rcases own1_slice hrow with ⟨g, cp, e, _⟩ | ⟨_, e⟩
                · rw [hk40] at e; exact ⟨_, _, e⟩
                · omega
              subst hvF
              have rW := rW9.grown hgb (fun k h1 h2 => HFA.out k (by omega) h2)
              have rB := rB9.grown hgb (fun k h1 _ => HFX.out k (by omega))
              have rX := rX9.grown hgb (fun k h1 _ => HFX.out k (by omega))
              have rY := HRY.out.grown hgb (fun k h1 _ => HFX.out k (by omega))
              have c1 := HSB.out wr adB adW _ _ _ _ cpB cpW rB rW
              clear hrow HOW hgb rW9 rB9 rX9 HRY HFA HFX hk40 hlt hk
              go_wp2_with fail
              refine c1.mono ?_; rintro e w12 ⟨rfl, hb12⟩
              have c2 := HSX.out w12 adX adY _ _ _ _ cpX cpY (rX.below hb12) (rY.below hb12)
              go_wp2_with fail
              refine c2.mono ?_; rintro e w13 ⟨rfl, hb13⟩
              have hb23 := hb12.trans (hb13.mono hb12.size)
              have hB13 := hB.trans (hb23.mono hB.size)
              have hlen : (((n0 + 40 : Nat) : Int) == (n0 : Int) + 40) = true := by simp
              have hlen2 : ((N : Int) == (N : Int)) = true := by simp
              clear c1 c2 rW rB rX rY hb12 hb13 hb23 hB hBs hgs
              go_wp2_with fail
              go_loopw [25] (fun kv wr => ∃ (k : Nat), kv = .int .i64 (k : Int) ∧ k ≤ N ∧ Below w1.heap.size w1 wr) (fun kv _ => N - (intOf kv).toNat)
              case atStart => exact ⟨0, rfl, by omega, hB13⟩
              case round =>
                clear hB13
                obtain ⟨k, rfl, hk, hB⟩ := hrel
                by_cases hlt : k < N
                · have hkl : k < rows.length := by rw [HN.out]; exact hlt
                  have hltI : (k : Int) < (N : Int) := by omega
                  obtain ⟨g, o, adr, cp, rfl, hg, c00, hv⟩ := HVV.out k hkl
                  obtain ⟨g2, o2, adr2, cp2, rfl, hg2, d00, hv2⟩ := HKS.out k hkl
                  have c0 := (hB.cell (p := ⟨g, o + k, none⟩) (show g < w1.heap.size by omega)).trans ((hB1.cell (p := ⟨g, o + k, none⟩) hg).trans c00)
                  have d0 := (hB.cell (p := ⟨g2, o2 + k, none⟩) hg2).trans d00
                  have hM := HRL.out k hkl
                  have hv1 := (hv.below hB1 (Nat.le_refl _)).below hB (Nat.le_refl _)
                  have hv3 := hv2.below hB (Nat.le_refl _)
                  generalize rows[k] = row at *
                  have SL : ∀ W, Below wr.heap.size wr W → Calls Tryd.prog 47 #[.slice adr row.length cp, .slice adr2 row.length cp2] W fun e w' => e = .returned (.bool true) ∧ Below W.heap.size W w' := fun W hb => (sameLines_any row hM W adr adr2 cp cp2 (hv1.below hb (Nat.le_refl _)) (hv3.below hb (Nat.le_refl _))).mono fun e w' ⟨he, n, hw⟩ => ⟨he, by rw [hw]; exact below_drewN (Below.refl _ W) n⟩
                  have HSL := hide SL
                  generalize row.length = M at *
                  have hgl : g < wr.heap.size := by have := hB.size; omega
                  have hgl2 : g2 < wr.heap.size := by have := hB.size; omega
                  clear SL hv hv1 hv2 hv3 c00 d00 HVV HKS HRL
                  have kc : wr.cell? ⟨g, o + k, none⟩ = some (.slice adr M cp) ∧ wr.cell? ⟨g2, o2 + k, none⟩ = some (.slice adr2 M cp2) := ⟨c0, d0⟩
                  go_wp2_with fail
                  go_region_held (fun w' => w'.cell? ⟨g, o + k, none⟩ = some (.slice adr M cp) ∧ w'.cell? ⟨g2, o2 + k, none⟩ = some (.slice adr2 M cp2)) (first | assumption | go_keep) (first | (go_at_call 47; refine (HSL.out _ ((Below.refl _ wr).drew)).mono ?_; rintro e w15 ⟨rfl, hb15⟩; have kc5 : w15.cell? ⟨g, o + k, none⟩ = some (.slice adr M cp) ∧ w15.cell? ⟨g2, o2 + k, none⟩ = some (.slice adr2 M cp2) := ⟨(hb15.cell (p := ⟨g, o + k, none⟩) (show g < wr.heap.size from hgl)).trans c0, (hb15.cell (p := ⟨g2, o2 + k, none⟩) (show g2 < wr.heap.size from hgl2)).trans d0⟩))
                  all_goals go_wp2
                  all_goals exact ⟨⟨k + 1, by go_num, by omega, hB.trans (((Below.refl wr.heap.size wr).drew.trans hb15).mono hB.size)⟩, by simp only [intOf]; omega⟩
                · have hge3 : ¬ (k : Int) < (N : Int) := by omega
                  clear HVV HKS HRL
                  go_wp2
                  go_ret
                  exact ⟨rfl, hB1.trans (hB.mono hB1.size)⟩
end Go.Proofs.YtckjededijgjgaaDoor.Tb
namespace Go.Proofs.YtckjededijgjgaaDoor.Tb
open Go.ChangeShapes Go.WideShapes Go.ChangeAt Go.RowKit
open Go.Deep
set_option linter.unusedVariables false

def tot (vs : List ByteArray) : Nat := (vs.map fun v => v.size + 1).sum
theorem tot_mem {vs : List ByteArray} {v : ByteArray} (h : v ∈ vs) : v.size + 1 ≤ tot vs := by
  induction vs with
  | nil => simp at h
  | cons u vs ih =>
    simp only [tot, List.map_cons, List.sum_cons]
    rcases List.mem_cons.1 h with rfl | h
    · omega
    · have := ih h
      unfold tot at this
      omega
theorem tot_len (vs : List ByteArray) : vs.length ≤ tot vs := by
  induction vs with
  | nil => simp
  | cons u vs ih => simp only [tot, List.map_cons, List.sum_cons, List.length_cons] at ih ⊢; omega
theorem cellsOf9 : Tryd.prog.cellsOf 9 = 1 := by kernel_rfl
theorem cellsOf34 : Tryd.prog.cellsOf 34 = 1 := by kernel_rfl
section
variable {H : Type} {enc : TypeId × Value → H} {W : World}
theorem bulk_tot (D : Nat → DataW H) (f : Nat → ByteArray) : ∀ (l : List Nat), (∀ i ∈ l, Rows.uptoBulk (D i) = (f i).size + 1) → Rows.uptoBulkAll (l.map D) = tot (l.map f)
  | [], _ => by simp [Rows.uptoBulkAll, tot]
  | i :: l, h => by
    have := bulk_tot D f l (fun j hj => h j (by simp [hj]))
    rw [List.map_cons, List.map_cons, Rows.uptoBulkAll, this, h i (by simp)]
    simp [tot]

theorem bulk_one (d : DataW H) : 1 ≤ Rows.uptoBulk d := by
  cases d with
  | lit l => cases l <;> simp [Rows.uptoBulk]
  | _ => simp [Rows.uptoBulk]
theorem bulk_len : ∀ (l : List (DataW H)), l.length ≤ Rows.uptoBulkAll l
  | [] => by simp
  | d :: l => by
    have := bulk_len l
    have := bulk_one d
    simp only [Rows.uptoBulkAll, List.length_cons]; omega
theorem bulk_mem : ∀ {l : List (DataW H)} {d : DataW H}, d ∈ l → Rows.uptoBulk d ≤ Rows.uptoBulkAll l
  | x :: l, d, h => by
    simp only [Rows.uptoBulkAll]
    rcases List.mem_cons.1 h with rfl | h
    · omega
    · have := bulk_mem h; omega

/-- texts that lie in a cell -/
theorem open_texts1 {v0 : Value} {x : DataW H × List MemPlace} {fuel : Nat} (hf' : DataW.trod enc Tryd.prog W 0 (fun _ => true) true fuel 34 [v0] = some x) :
    ∃ (vs : List ByteArray) (ad : Option Addr) (cap : Nat), v0 = .slice ad vs.length cap ∧ Sv W ad vs ∧ tot vs ≤ Rows.uptoBulk x.1 := by
  rcases open_slice1 Tryd.underlying34 cellsOf9 hf' with ⟨hcs, hx⟩ | ⟨a, len, cap, m, n, V, D, Pl, hcs, _, hl, hm, hmm, hx, hel⟩
  · simp only [List.cons.injEq, and_true] at hcs
    rw [hcs]
    exact ⟨[], _, _, rfl, fun k hk => by simp at hk, by simp [tot]⟩
  · simp only [List.cons.injEq, and_true] at hcs
    rw [hcs, hx]
    have hml : m = cap := by rw [hmm]; simp
    have each : ∀ i, i < len → ∃ s : ByteArray, W.cell? (a.add i) = some (.string s) ∧ Rows.uptoBulk (D i) = s.size + 1 := by
      intro i hi
      obtain ⟨hc, ht⟩ := hel i (by omega)
      obtain ⟨t, e0, h0, _⟩ := DataW.trod_string Tryd.underlying9 ht
      have e : V i = .string t := by simpa using e0
      rw [e] at hc
      simp only [Prod.mk.injEq] at h0
      refine ⟨t, hc, ?_⟩
      rw [h0.1]
      simp only [Rows.uptoBulk, Array.length_toList, ByteArray.size_data]
    haveI : Inhabited ByteArray := ⟨⟨#[]⟩⟩
    obtain ⟨f, hf2⟩ := choose_lt (α := ByteArray) each
    have htot : tot ((List.range len).map f) ≤ Rows.uptoBulk (DataW.slice ((List.range len).map D) ((List.range (m - len)).map fun j => D (len + j))) := by
      simp only [Rows.uptoBulk]
      rw [bulk_tot D f (List.range len) (fun i hi => (hf2 i (by simpa using hi)).2)]
      omega
    by_cases h0 : len = 0
    · subst h0
      exact ⟨[], _, _, rfl, fun k hk => by simp at hk, by simp [tot]⟩
    · have hsp : a.spot = none := by
        have h1 := (hf2 0 (by omega)).1
        have e : a.add 0 = a := by simp [Addr.add]
        rw [e] at h1
        unfold World.cell? at h1
        split at h1
        · split at h1
          · cases h1
          · rename_i h; simpa using h
        · cases h1
      obtain ⟨ab, ao, sp⟩ := a
      simp only at hsp
      subst hsp
      refine ⟨(List.range len).map f, _, _, by rw [List.length_map, List.length_range], fun i hi => ?_, htot⟩
      have hi' : i < len := by simpa using hi
      have hc := (hf2 i hi').1
      rw [Pc.addP] at hc
      have e : ((List.range len).map f)[i] = f i := by simp
      rw [e]
      exact ⟨ab, ao, rfl, World.block_lt_of_cell? W _ hc, hc⟩

/-- rows that came in -/
theorem open_rows {v0 : Value} {d0 : DataW H} {p0 : List MemPlace} (h : DataW.Trod enc Tryd.prog W 0 (fun _ => true) true 67 v0 d0 p0) (hone : ∃ a len cap, v0 = .slice a len cap) :
    ∃ (rows : List (List ByteArray)) (ad : Option Addr) (cap : Nat), v0 = .slice ad rows.length cap ∧ Rs W ad rows ∧ rows.length ≤ Rows.uptoBulk d0 ∧ ∀ r ∈ rows, tot r ≤ Rows.uptoBulk d0 := by
  obtain ⟨fuel, hf⟩ := h
  obtain ⟨a0, len0, cap0, rfl⟩ := hone
  have hf' : DataW.trod enc Tryd.prog W 0 (fun _ => true) true fuel 67 [.slice a0 len0 cap0] = some (d0, p0) := by simpa [Value.cells] using hf
  rcases open_slice1 Tryd.underlying67 cellsOf34 hf' with ⟨hcs, hx⟩ | ⟨a, len, cap, m, n, V, D, Pl, hcs, _, hl, hm, hmm, hx, hel⟩
  · simp only [List.cons.injEq, and_true] at hcs
    rw [hcs]
    exact ⟨[], _, _, rfl, fun k hk => by simp at hk, by simp, fun r hr => by simp at hr⟩
  · simp only [List.cons.injEq, and_true] at hcs
    rw [hcs]
    simp only [Prod.mk.injEq] at hx
    have hml : m = cap := by rw [hmm]; simp
    have each : ∀ i, i < len → ∃ r : List ByteArray, (∃ adr cp, W.cell? (a.add i) = some (.slice adr r.length cp) ∧ Sv W adr r) ∧ tot r ≤ Rows.uptoBulk (D i) := by
      intro i hi
      obtain ⟨hc, ht⟩ := hel i (by omega)
      obtain ⟨r, adr, cp, e, hS, hT⟩ := open_texts1 ht
      rw [e] at hc
      exact ⟨r, ⟨adr, cp, hc, hS⟩, hT⟩
    obtain ⟨f, hf2⟩ := choose_lt (α := List ByteArray) each
    have hlen : len ≤ Rows.uptoBulk d0 := by
      rw [hx.1]
      simp only [Rows.uptoBulk]
      have := bulk_len ((List.range len).map D)
      simp only [List.length_map, List.length_range] at this
      omega
    have htot : ∀ i, i < len → tot (f i) ≤ Rows.uptoBulk d0 := by
      intro i hi
      have h1 := (hf2 i hi).2
      have h2 := bulk_mem (l := (List.range len).map D) (d := D i) (List.mem_map.2 ⟨i, by simpa using hi, rfl⟩)
      rw [hx.1]
      simp only [Rows.uptoBulk]
      omega
    by_cases h0 : len = 0
    · subst h0
      exact ⟨[], _, _, rfl, fun k hk => by simp at hk, by simp, fun r hr => by simp at hr⟩
    · have hsp : a.spot = none := by
        obtain ⟨adr, cp, h1, _⟩ := (hf2 0 (by omega)).1
        have e : a.add 0 = a := by simp [Addr.add]
        rw [e] at h1
        unfold World.cell? at h1
        split at h1
        · split at h1
          · cases h1
          · rename_i h; simpa using h
        · cases h1
      obtain ⟨ab, ao, sp⟩ := a
      simp only at hsp
      subst hsp
      refine ⟨(List.range len).map f, _, _, by rw [List.length_map, List.length_range], fun i hi => ?_, by rw [List.length_map, List.length_range]; exact hlen, fun r hr => ?_⟩
      · have hi' : i < len := by simpa using hi
        obtain ⟨adr, cp, hc, hS⟩ := (hf2 i hi').1
        rw [Pc.addP] at hc
        have e : ((List.range len).map f)[i] = f i := by simp
        rw [e]
        exact ⟨ab, ao, adr, cp, rfl, World.block_lt_of_cell? W _ hc, hc, hS⟩
      · obtain ⟨i, hi, rfl⟩ := List.mem_map.1 hr
        exact htot i (by simpa using hi)
end
end Go.Proofs.YtckjededijgjgaaDoor.Tb
