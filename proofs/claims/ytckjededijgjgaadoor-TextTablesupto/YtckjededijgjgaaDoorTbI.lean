import Derived.Test.YtckjededijgjgaaDoorTbH
import Derived.BigQuiet
import Derived.Deep.QuietTactic
namespace Go.Proofs.YtckjededijgjgaaDoor.Tb
open Go.RowKit
set_option linter.unusedVariables false

set_option maxRecDepth 100000 in
set_option maxHeartbeats 2000000 in
theorem sameLines_any (l : List ByteArray) (hl : l.length ≤ 1048576) (w : World) (ad bd : Option Addr) (ca cb : Nat) (hA : Sv w ad l) (hB : Sv w bd l) :
    Calls Tryd.prog 47 #[.slice ad l.length ca, .slice bd l.length cb] w fun e w' => e = .returned (.bool true) ∧ ∃ n, w' = w.drewN n := by
  have HA := hide hA
  have HB := hide hB
  clear hA hB
  obtain ⟨N, hN⟩ : ∃ N, l.length = N := ⟨_, rfl⟩
  have HN := hide hN
  rw [hN] at hl ⊢
  clear hN
  have hNI : (N : Int) ≤ 1048576 := by omega
  go_enter Tryd.func47, Tryd.ntmps47
  go_wp2_with fail
  go_loopw [5] (fun kv wr => ∃ (k : Nat), kv = .int .i64 (k : Int) ∧ k ≤ N ∧ ∃ n, wr = w.drewN n) (fun kv _ => N - (intOf kv).toNat)
  case atStart => exact ⟨0, rfl, by omega, 0, rfl⟩
  case round =>
    obtain ⟨k, rfl, hk, n, rfl⟩ := hrel
    by_cases hlt : k < N
    · have hkl : k < l.length := by rw [HN.out]; exact hlt
      obtain ⟨g, o, rfl, hg, c0⟩ := HA.out k hkl
      obtain ⟨g2, o2, rfl, hg2, d0⟩ := HB.out k hkl
      have hltI : (k : Int) < (N : Int) := by omega
      generalize l[k] = x at *
      have bs : (x.toList == x.toList) = true := by simp
      have c0' : (w.drewN n).cell? ⟨g, o + k, none⟩ = some (.string x) := c0
      have d0' : (w.drewN n).cell? ⟨g2, o2 + k, none⟩ = some (.string x) := d0
      clear HA HB
      go_wp2_with fail
      go_quiet (fail)
      go_wp2
      exact ⟨⟨k + 1, by go_num, by omega, _, rfl⟩, by simp only [intOf]; omega⟩
    · have hge : ¬ (k : Int) < (N : Int) := by omega
      go_wp2
      go_ret
      exact ⟨rfl, n, rfl⟩

/-- lines as a slice, its block between two bounds -/
structure Rv (w : World) (ad : Option Addr) (l : List ByteArray) (lo hi : Nat) : Prop where
  sv : Sv w ad l
  at_ : ∀ a, ad = some a → lo ≤ a.block ∧ a.block < hi
theorem rv_of {w : World} {base : Nat} {v : Value} {l : List ByteArray} (h : w.ownsRow base 9 1 v l.length (sCs l)) : ∃ ad cap, v = .slice ad l.length cap ∧ Rv w ad l base w.heap.size := by
  rcases h.2 with ⟨e, h0⟩ | ⟨g, cap, cur, e, hgb, hg, h1, h2, h3, h4⟩
  · exact ⟨none, 0, by rw [e, h0], fun k hk => by omega, fun a ha => by cases ha⟩
  · refine ⟨some ⟨g, 0, none⟩, cap, e, fun k hk => ⟨g, 0, rfl, (Array.getElem?_eq_some_iff.1 hg).1, ?_⟩, fun a ha => by cases ha; exact ⟨hgb, (Array.getElem?_eq_some_iff.1 hg).1⟩⟩
    have : w.cell? ⟨g, 0 + k, none⟩ = (sCs l)[k]? := by
      rw [← h4, List.getElem?_take_of_lt (by omega), Array.getElem?_toList, Nat.zero_add]
      simp [World.cell?, hg]
    rw [this]
    simp [sCs, hk]
theorem Rv.below {w w' : World} {ad : Option Addr} {l : List ByteArray} {lo hi : Nat} (h : Rv w ad l lo hi) (hb : Below w.heap.size w w') : Rv w' ad l lo hi := ⟨h.sv.below hb (Nat.le_refl _), h.at_⟩
theorem Rv.drewN {w : World} {ad : Option Addr} {l : List ByteArray} {lo hi : Nat} (h : Rv w ad l lo hi) (n : Nat) : Rv (w.drewN n) ad l lo hi := h.below (below_drewN (Below.refl _ w) n)
theorem Rv.grown {w w' : World} {ad : Option Addr} {l : List ByteArray} {lo hi : Nat} {o : Option Nat} (h : Rv w ad l lo hi) (hg : w.grownBy w' o) (hne : ∀ k, lo ≤ k → k < hi → some k ≠ o) : Rv w' ad l lo hi := by
  refine ⟨fun k hk => ?_, h.at_⟩
  obtain ⟨g, off, h0, h1, c0⟩ := h.sv k hk
  obtain ⟨a1, a2⟩ := h.at_ _ h0
  have hb := hg.block g h1 (hne g a1 a2)
  exact ⟨g, off, h0, Nat.lt_of_lt_of_le h1 hg.size, (World.cell?_of_block (a := ⟨g, off + k, none⟩) hb).trans c0⟩
/-- lines stand while a row of another type grows -/
theorem own9_keep {w0 w1 : World} {base base' n m : Nat} {v u : Value} {l l' : List Value} (h9 : w0.ownsRow base 9 1 v n l) (h34 : w0.ownsRow base' 34 1 u m l') (hg : w0.grownBy w1 u.ownBlock) : w1.ownsRow base 9 1 v n l := by
  obtain ⟨hl, ho⟩ := h9
  refine ⟨hl, ?_⟩
  rcases ho with ho | ⟨g, cap, cur, e1, e2, hgb, e3⟩
  · exact .inl ho
  · refine .inr ⟨g, cap, cur, e1, e2, (hg.block g (Array.getElem?_eq_some_iff.1 hgb).1 ?_).trans hgb, e3⟩
    intro he
    rcases h34.2 with ⟨hv0, _⟩ | ⟨g', cap', cur', hv0, _, hg', _⟩
    · rw [hv0] at he; cases he
    · rw [hv0] at he; cases he
      rw [hgb] at hg'
      cases hg'
theorem info34 : (Tryd.prog.info? 34).map (fun i => (i.zero, i.size, i.bytes)) = some (some (.slice none 0 0), 1, 24) := by kernel_rfl
theorem newR (W : World) (z : Value) (hz : z.cells = #[z]) (j : Nat) (u : Value) (h : ([z] : List Value)[j]? = some u) : (W.alloc (.cells #[z] 34)).cell? ((⟨W.heap.size, 0, none⟩ : Addr).add j) = some u := by
  rw [Pc.addP, World.cell?_alloc_new, Nat.zero_add]
  simpa using h
/-- rows copied, in memory -/
def Kp (w : World) (base : Nat) (cs : List Value) (rows : List (List ByteArray)) : Prop := ∀ i (hi : i < rows.length), ∃ v, cs[i]? = some v ∧ w.ownsRow base 9 1 v rows[i].length (sCs rows[i])
theorem kp_rs {w : World} {base : Nat} {v : Value} {cs : List Value} {rows : List (List ByteArray)} (h : w.ownsRow base 34 1 v rows.length cs) (hk : Kp w base cs rows) : ∃ ad cap, v = .slice ad rows.length cap ∧ Rs w ad rows := by
  rcases h.2 with ⟨e, h0⟩ | ⟨g, cap, cur, e, hgb, hg, h1, h2, h3, h4⟩
  · exact ⟨none, 0, by rw [e, h0], fun k hk => by omega⟩
  · refine ⟨some ⟨g, 0, none⟩, cap, e, fun i hi => ?_⟩
    obtain ⟨u, hu, ho⟩ := hk i hi
    obtain ⟨ad, cp, rfl, hR⟩ := rv_of ho
    refine ⟨g, 0, ad, cp, rfl, (Array.getElem?_eq_some_iff.1 hg).1, ?_, hR.sv⟩
    rw [← hu, ← h4, List.getElem?_take_of_lt (by omega), Array.getElem?_toList, Nat.zero_add]
    simp [World.cell?, hg]
theorem kp_snoc {w0 w1 : World} {base : Nat} {u v : Value} {cs : List Value} {n : Nat} {rows : List (List ByteArray)} {row : List ByteArray} (h34 : w0.ownsRow base 34 1 u n cs) (hn : n = rows.length) (hk : Kp w0 base cs rows) (h9 : w0.ownsRow base 9 1 v row.length (sCs row)) (hg : w0.grownBy w1 u.ownBlock) : Kp w1 base (cs ++ [v]) (rows ++ [row]) := by
  have hcl : cs.length = rows.length := by have := h34.1; omega
  intro i hi
  by_cases hlt : i < rows.length
  · obtain ⟨x, hx, ho⟩ := hk i hlt
    refine ⟨x, by rw [List.getElem?_append_left (by omega)]; exact hx, ?_⟩
    rw [List.getElem_append_left hlt]
    exact own9_keep ho h34 hg
  · have hi' : i = rows.length := by simp at hi; omega
    subst hi'
    refine ⟨v, by rw [List.getElem?_append_right (by omega), hcl]; simp, ?_⟩
    simp only [List.getElem_concat_length]
    exact own9_keep h9 h34 hg
theorem kp_below {w w' : World} {base : Nat} {cs : List Value} {rows : List (List ByteArray)} (h : Kp w base cs rows) (hb : Below w.heap.size w w') : Kp w' base cs rows := fun i hi => by
  obtain ⟨v, hv, ho⟩ := h i hi
  exact ⟨v, hv, ownT_below ho hb⟩
theorem gb_refl (w : World) (o : Option Nat) : w.grownBy w o := ⟨rfl, rfl, rfl, Nat.le_refl _, fun _ _ _ => rfl⟩
theorem gb_set {w w1 : World} {g : Nat} (h : w.grownBy w1 (some g)) (j : Nat) (u : Value) : w.grownBy (w1.setCell ⟨g, j, none⟩ u) (some g) :=
  ⟨h.os, h.tape, h.output, by have := h.size; simp [World.setCell]; exact this, fun k hk hne => (Below.heap_setCell _ _ _ _ (fun e => hne (by rw [e]))).trans (h.block k hk hne)⟩
theorem gb_alloc {w w1 : World} {o : Option Nat} (h : w.grownBy w1 o) (x : Obj) : w.grownBy (w1.alloc x) o := by
  have hb := (Below.refl w1.heap.size w1).alloc (Nat.le_refl _) x
  exact ⟨hb.os.trans h.os, hb.tape.trans h.tape, hb.output.trans h.output, Nat.le_trans h.size hb.size, fun k hk hne => (hb.block k (Nat.lt_of_lt_of_le hk h.size)).trans (h.block k hk hne)⟩
theorem gb_trans {w w1 w2 : World} {o o' : Option Nat} (h : w.grownBy w1 o) (h' : w1.grownBy w2 o') (ho : o' = o ∨ ∀ k, o' = some k → w.heap.size ≤ k) : w.grownBy w2 o := by
  refine ⟨h'.os.trans h.os, h'.tape.trans h.tape, h'.output.trans h.output, Nat.le_trans h.size h'.size, fun k hk hne => ?_⟩
  refine (h'.block k (Nat.lt_of_lt_of_le hk h.size) (fun e => ?_)).trans (h.block k hk hne)
  rcases ho with rfl | ho
  · exact hne e
  · have := ho k e.symm; omega
end Go.Proofs.YtckjededijgjgaaDoor.Tb
