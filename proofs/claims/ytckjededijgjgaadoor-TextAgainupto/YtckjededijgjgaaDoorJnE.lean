import Derived.Test.YtckjededijgjgaaDoorBwD
import Derived.Test.YtckjededijgjgaaDoorCbC
import Derived.Test.YtckjededijgjgaaDoorRnE
import Derived.BigQuiet
import Derived.Deep.QuietTactic
namespace Go.Proofs.YtckjededijgjgaaDoor.Jn
open Go.RowKit
open Go.Proofs.YtckjededijgjgaaDoor.Bw (bareOk)
open Go.Proofs.YtckjededijgjgaaDoor.Qt (quoteL qS)
set_option linter.unusedVariables false

theorem hide {p : Prop} (h : p) : Hid p := h
/-- a word: text, quoted, place -/
abbrev W3 := ByteArray × Bool × Int
/-- a word's bytes in a line -/
def wordL (x : W3) : List UInt8 := if x.2.1 = true then quoteL x.1 else x.1.data.toList
/-- the line of words -/
def lineA : Bool → List W3 → List UInt8
  | _, [] => []
  | f, x :: t => (if f = true then [] else [32]) ++ wordL x ++ lineA false t
theorem lineA_take (l : List W3) : ∀ (k : Nat) (f : Bool) (hk : k < l.length), lineA f (l.take (k + 1)) = lineA f (l.take k) ++ (if k = 0 ∧ f = true then [] else [32]) ++ wordL l[k] := by
  induction l with
  | nil => intro k f hk; simp at hk
  | cons x t ih =>
    intro k f hk
    cases k with
    | zero =>
      show lineA f (x :: t.take 0) = lineA f [] ++ _ ++ wordL x
      rw [List.take_zero, lineA, lineA, lineA, List.append_nil, List.nil_append]
      cases f <;> simp
    | succ k =>
      have hk' : k < t.length := by simpa using hk
      have := ih k false hk'
      show lineA f (x :: t.take (k + 1)) = lineA f (x :: t.take k) ++ _ ++ wordL t[k]
      rw [lineA, lineA, this]
      simp
theorem lineA_pre (l : List W3) (f : Bool) : ∀ k, (lineA f (l.take k)).length ≤ (lineA f l).length := by
  induction l generalizing f with
  | nil => intro k; simp
  | cons x t ih =>
    intro k
    cases k with
    | zero => simp [lineA]
    | succ k =>
      rw [List.take_succ_cons, lineA, lineA]
      have := ih false k
      simp only [List.length_append]
      omega
def badW (x : W3) : Bool := !x.2.1 && !bareOk x.1
/-- what Join answers -/
def joinG (l : List W3) : List UInt8 × Int × Int :=
  if 64 < l.length then ([], 0, 18) else match l.findIdx? badW with
    | some i => ([], (i : Int), 14)
    | none => if 4096 < (lineA true l).length then ([], 4096, 10) else (lineA true l, 0, 0)
theorem joinG_many {l : List W3} (h : 64 < l.length) : joinG l = ([], 0, 18) := by unfold joinG; rw [if_pos h]
theorem joinG_bad {l : List W3} {k : Nat} (h : ¬ 64 < l.length) (hk : k < l.length) (hb : ∀ j (hj : j < l.length), j < k → badW l[j] = false) (hx : badW l[k] = true) : joinG l = ([], (k : Int), 14) := by
  have e : l.findIdx? badW = some k := by
    rw [List.findIdx?_eq_some_iff_getElem]
    exact ⟨hk, hx, fun j hj => by rw [hb j (by omega) hj]; simp⟩
  unfold joinG
  rw [if_neg h, e]
theorem joinG_good {l : List W3} (h : ¬ 64 < l.length) (hb : ∀ j (hj : j < l.length), badW l[j] = false) : joinG l = if 4096 < (lineA true l).length then ([], 4096, 10) else (lineA true l, 0, 0) := by
  have e : l.findIdx? badW = none := by
    rw [List.findIdx?_eq_none_iff]
    intro x hx
    obtain ⟨j, hj, rfl⟩ := List.mem_iff_getElem.1 hx
    exact hb j hj
  unfold joinG
  rw [if_neg h, e]

/-- words in memory -/
def Ws (w : World) (ad : Option Addr) (l : List W3) : Prop := ∀ k (hk : k < l.length), ∃ g off, ad = some ⟨g, off, none⟩ ∧ g < w.heap.size ∧ w.cell? ⟨g, off + k * 3, none⟩ = some (.string l[k].1) ∧ w.cell? ⟨g, off + k * 3 + 1, none⟩ = some (.bool l[k].2.1) ∧ w.cell? ⟨g, off + k * 3 + 2, none⟩ = some (.int .i64 l[k].2.2)
theorem Ws.below {w w' : World} {ad : Option Addr} {l : List W3} {B : Nat} (h : Ws w ad l) (hb : Below B w w') (hB : w.heap.size ≤ B) : Ws w' ad l := by
  intro k hk
  obtain ⟨g, off, h0, h1, c0, c1, c2⟩ := h k hk
  have hg : g < B := Nat.lt_of_lt_of_le h1 hB
  exact ⟨g, off, h0, Nat.lt_of_lt_of_le h1 hb.size, (hb.cell (p := ⟨g, off + k * 3, none⟩) hg).trans c0, (hb.cell (p := ⟨g, off + k * 3 + 1, none⟩) hg).trans c1, (hb.cell (p := ⟨g, off + k * 3 + 2, none⟩) hg).trans c2⟩
theorem wordL_len (x : W3) (h : x.1.size ≤ 1048576) : (wordL x).length ≤ 11000000 := by
  unfold wordL
  split
  · have := Cb.Q_bound x.1 h
    unfold Cb.Q at this
    rw [show (⟨(quoteL x.1).toArray⟩ : ByteArray).size = (quoteL x.1).length by show (quoteL x.1).toArray.size = _; simp] at this
    exact this
  · rw [Array.length_toList]
    show x.1.size ≤ _
    omega
open Go.Proofs.YtckjededijgjgaaDoor.Qt (Bs) in
theorem Bs.then_ {B b : Nat} {acc acc' : List UInt8} {w0 w w' : World} (h : Bs B b acc w0 w) (h' : Bs B b acc' w w') : Bs B b acc' w0 w' := ⟨h'.bld, h.bel.trans h'.bel, h.kept.trans h'.kept, h.base⟩
open Go.Proofs.YtckjededijgjgaaDoor.Qt (Bs) in
/-- a word's cells, still there -/
theorem Bs.word {B b k : Nat} {acc : List UInt8} {wa w : World} {c : Array Value} (h : Bs B b acc wa w) (hk : wa.heap[k]? = some (.cells c 40 (0, 0))) (hne : k ≠ b) : w.heap[k]? = some (.cells c 40 (0, 0)) :=
  h.kept k _ hk (fun e => hne (by cases e; rfl)) (fun c fz e => by cases e)
end Go.Proofs.YtckjededijgjgaaDoor.Jn
namespace Go.Proofs.YtckjededijgjgaaDoor.Jn
open Go.RowKit
open Go.Proofs.YtckjededijgjgaaDoor.Bw (bareOk isBare_any len_any)
open Go.Proofs.YtckjededijgjgaaDoor.Qt (quoteL qS quote_any Bs tabs_below)
open Go.Proofs.YtckjededijgjgaaDoor.Hx (Tabs)
open Go.Proofs.YtckjededijgjgaaDoor.Enc (Spans)
open Go.Proofs.YtckjededijgjgaaDoor.Uq (three)
set_option linter.unusedVariables false

/-- the builder's world, and the words -/
theorem Bs.words {w w0 wr : World} {B b : Nat} {acc : List UInt8} (h : Bs B b acc w0 wr) (h0 : Below w.heap.size w w0) (hB : w.heap.size ≤ B) : Below w.heap.size w wr := h0.trans (h.bel.mono hB)

set_option maxRecDepth 100000 in
set_option maxHeartbeats 4000000 in
theorem join_any (l : List W3) (hz : ∀ x ∈ l, x.1.size ≤ 1048576) (w : World) (ad : Option Addr) (cap : Nat) (hW : Ws w ad l) (hT : Tabs w) (R off cap' : Nat) (hS : Spans w R off cap') :
    Calls Tryd.prog 28 #[.slice ad l.length cap] w fun e w' => e = .returned (three (joinG l)) ∧ Below w.heap.size w w' := by
  have h5 := hT.five
  by_cases hbig : 64 < l.length
  · rw [joinG_many hbig]
    have hbI : (64 : Int) < (l.length : Int) := by omega
    clear hz hW
    generalize l.length = N at *
    go_enter Tryd.func28, Tryd.ntmps28
    go_wp2
    go_ret3
    exact ⟨rfl, Below.refl _ _⟩
  have BD := fun k hk hb hx => joinG_bad (l := l) (k := k) hbig hk hb hx
  have GD := fun hb => joinG_good (l := l) hbig hb
  have LT := fun k hk => lineA_take l k true hk
  have LP := lineA_pre l true
  have WL := fun k (hk : k < l.length) => wordL_len l[k] (hz _ (List.getElem_mem hk))
  have HZ := fun k (hk : k < l.length) => hz l[k] (List.getElem_mem hk)
  have HTL : lineA true (l.take l.length) = lineA true l := by rw [List.take_length]
  have HBD := hide BD
  have HGD := hide GD
  have HLT := hide LT
  have HLP := hide LP
  have HWL := hide WL
  have HHZ := hide HZ
  have HTLh := hide HTL
  have HWs := hide hW
  clear BD GD LT LP WL HZ hz hW HTL
  obtain ⟨J, hJ⟩ : ∃ J, joinG l = J := ⟨_, rfl⟩
  have HJ := hide hJ
  rw [hJ]
  clear hJ
  obtain ⟨N, hN⟩ : ∃ N, l.length = N := ⟨_, rfl⟩
  have HN := hide hN
  rw [hN] at hbig ⊢
  clear hN
  have hNI : (N : Int) ≤ 64 := by omega
  have hN64 : N ≤ 64 := by omega
  clear hbig
  go_enter Tryd.func28, Tryd.ntmps28
  go_wp2_with fail
  go_loopw [15] (fun kv wr => ∃ (k : Nat), kv = .int .i64 (k : Int) ∧ k ≤ N ∧ Below w.heap.size w wr ∧ Hid (∀ j (hj : j < l.length), j < k → badW l[j] = false)) (fun kv _ => N - (intOf kv).toNat)
  case atStart => exact ⟨0, rfl, by omega, Below.refl _ _, fun j hj h => by omega⟩
  case round =>
    obtain ⟨k, rfl, hk, hB, HI⟩ := hrel
    by_cases hlt : k < N
    · have hkl : k < l.length := by rw [HN.out]; exact hlt
      obtain ⟨g, o, rfl, hg, c0, c1, c2⟩ := (HWs.out.below hB (Nat.le_refl _)) k hkl
      have hltI : (k : Int) < (N : Int) := by omega
      have hsz := HHZ.out k hkl
      have HNX : Hid (badW l[k] = false → ∀ j (hj : j < l.length), j < k + 1 → badW l[j] = false) := by
        intro hx j hj hjk
        by_cases e : j = k
        · subst e; exact hx
        · exact HI.out j hj (by omega)
      have HBX : Hid (badW l[k] = true → J = ([], (k : Int), 14)) := by
        intro hx
        rw [← HJ.out]
        exact HBD.out k hkl HI.out hx
      generalize l[k] = x at *
      obtain ⟨tx, qd, pl⟩ := x
      simp only at c0 c1 c2 hsz
      have hbw := (hB.alloc hB.size (.cells #[.string tx, .bool qd, .int .i64 pl] 40))
      have IB := isBare_any tx (by omega) _ R off cap' (hS.below hbw (Nat.le_refl _))
      cases qd
      · cases hbo : bareOk tx
        · have HE : Hid (J = ([], (k : Int), 14)) := HBX.out (by unfold badW; simp [hbo])
          rw [hbo] at IB
          clear HNX HBX HI hbo
          go_wp2_with fail
          refine IB.mono ?_; rintro e w2 ⟨rfl, hb2⟩
          go_wp2
          go_ret3
          exact ⟨by rw [HE.out]; rfl, hbw.trans (hb2.mono hbw.size)⟩
        · have HI2 : Hid (∀ j (hj : j < l.length), j < k + 1 → badW l[j] = false) := HNX.out (by unfold badW; simp [hbo])
          rw [hbo] at IB
          clear HNX HBX HI hbo
          go_wp2_with fail
          refine IB.mono ?_; rintro e w2 ⟨rfl, hb2⟩
          go_wp2
          exact ⟨⟨k + 1, by go_num, by omega, hbw.trans (hb2.mono hbw.size), HI2⟩, by simp [intOf]; omega⟩
      · have HI2 : Hid (∀ j (hj : j < l.length), j < k + 1 → badW l[j] = false) := HNX.out (by unfold badW; simp)
        clear HNX HBX HI IB
        go_wp2
        exact ⟨⟨k + 1, by go_num, by omega, hbw, HI2⟩, by simp [intOf]; omega⟩
    · have hge : ¬ (k : Int) < (N : Int) := by omega
      have HGO : Hid (J = if 4096 < (lineA true l).length then ([], 4096, 10) else (lineA true l, 0, 0)) := by
        show _ = _
        rw [← HJ.out]
        exact HGD.out (fun j hj => HI.out j hj (by rw [HN.out] at hj; omega))
      clear HI HBD HGD HJ
      have hb0 : Lib.IsBuilderF 80 5 wr.heap.size wr.heap.size (Lib.byteCells []) (wr.alloc (.cells #[.pointer none, .slice none 0 0] 80)) := Lib.IsBuilderF.of (Lib.fresh_isBuilder 80 5 wr)
      have hsz0 : (wr.alloc (.cells #[.pointer none, .slice none 0 0] 80)).heap.size = wr.heap.size + 1 := by simp
      have S0 : Bs wr.heap.size wr.heap.size [] _ _ := Bs.start hb0 (by rw [hsz0]; omega)
      have hB0 := hB.alloc hB.size (.cells #[.pointer none, .slice none 0 0] 80)
      have hBs := hB.size
      go_wp2_with fail
      generalize hb : wr.heap.size = b at *
      generalize wr.alloc (.cells #[.pointer none, .slice none 0 0] 80) = w0 at *
      clear hb hB hb0 hsz0 hge
      go_loopw [33] (fun kv wr => ∃ (k : Nat), kv = .int .i64 (k : Int) ∧ k ≤ N ∧ Hid ((lineA true (l.take k)).length ≤ 4096) ∧ Bs b b (lineA true (l.take k)) w0 wr) (fun kv _ => N - (intOf kv).toNat)
      case atStart => exact ⟨0, rfl, by omega, by show _ ≤ _; simp [lineA], by simpa [lineA] using S0⟩
      case round =>
        clear hk hlt
        obtain ⟨k, rfl, hk, HL, S1⟩ := hrel
        have hBr := Bs.words S1 hB0 hBs
        by_cases hlt : k < N
        · have hkl : k < l.length := by rw [HN.out]; exact hlt
          obtain ⟨g, o, rfl, hg, c0, c1, c2⟩ := (HWs.out.below hBr (Nat.le_refl _)) k hkl
          have hltI : (k : Int) < (N : Int) := by omega
          have hsx := HHZ.out k hkl
          have hwl := HWL.out k hkl
          have HLT2 := hide (HLT.out k hkl)
          have HPR := hide (HLP.out (k + 1))
          have HLN := HL.out
          generalize hA2 : lineA true (l.take (k + 1)) = A2 at *
          have HA2 := hide hA2
          clear hA2
          generalize lineA true (l.take k) = A1 at *
          generalize l[k] = x at *
          obtain ⟨tx, qd, pl⟩ := x
          simp only at c0 c1 c2 hsx
          have S2 := S1.call ((Below.refl wr.heap.size wr).alloc (Nat.le_refl _) (.cells #[.string tx, .bool qd, .int .i64 pl] 40))
          have hx2 : (wr.alloc (.cells #[.string tx, .bool qd, .int .i64 pl] 40)).heap[wr.heap.size]? = some (.cells #[.string tx, .bool qd, .int .i64 pl] 40 (0, 0)) := World.alloc_heap_new wr _
          have hne : wr.heap.size ≠ b := by
            obtain ⟨c, fz, hc⟩ := Nm.bld_block S1.bld
            have := (Array.getElem?_eq_some_iff.1 hc).1
            omega
          have hal : wr.heap.size < (wr.alloc (.cells #[.string tx, .bool qd, .int .i64 pl] 40)).heap.size := by simp
          by_cases hk0 : k = 0
          · have HK0 := hide hk0
            have hk0I : ¬ (0 : Int) < (k : Int) := by omega
            clear hk0
            cases qd
            · skip
              have eA0 : A2 = A1 ++ [] ++ wordL (tx, false, pl) := by rw [HLT2.out]; congr 2; simp [HK0.out]
              have eA : A2 = A1 ++ tx.data.toList := by rw [eA0]; simp [wordL]
              have HEA := hide eA
              clear eA eA0 HLT2 hwl HK0
              have hT2 : Bs b b A1 (wr.alloc (.cells #[.string tx, .bool false, .int .i64 pl] 40)) (wr.alloc (.cells #[.string tx, .bool false, .int .i64 pl] 40)) := Qt.Bs.start S2.bld S2.room
              go_wp2_with fail
              refine (hT2.str tx (by omega)).mono ?_
              rintro e w5 ⟨rfl, T5⟩
              rw [← HEA.out] at T5
              have S5 := Bs.then_ S2 T5
              have hl5 : A2.length ≤ 1000000000 := by rw [HEA.out]; simp; omega
              clear HEA
              have LN := len_any b b A2 w5 T5.bld hl5
              have hB5 := Bs.words S5 hB0 hBs
              go_wp2_with fail
              refine LN.mono ?_; rintro e w6 ⟨rfl, hw⟩; obtain rfl := hw.symm
              by_cases h4 : 4096 < A2.length
              · have h4I : (4096 : Int) < (A2.length : Int) := by omega
                have HE : Hid (J = ([], 4096, 10)) := by
                  show _ = _
                  rw [HGO.out, if_pos (by have := HPR.out; omega)]
                clear HGO HPR HL
                go_wp2
                go_ret3
                exact ⟨by rw [HE.out]; rfl, hB5⟩
              · have h4I : ¬ (4096 : Int) < (A2.length : Int) := by omega
                have HL2 : Hid (A2.length ≤ 4096) := by show _ ≤ _; omega
                have HA2 := HA2
                clear HGO HPR HL
                go_wp2
                exact ⟨⟨k + 1, by go_num, by omega, by rw [HA2.out]; exact HL2, by rw [HA2.out]; exact S5⟩, by simp [intOf]; omega⟩
            · skip
              have eA0 : A2 = A1 ++ [] ++ wordL (tx, true, pl) := by rw [HLT2.out]; congr 2; simp [HK0.out]
              have hql : (quoteL tx).length ≤ 11000000 := hwl
              have eA : A2 = A1 ++ (⟨(quoteL tx).toArray⟩ : ByteArray).data.toList := by rw [eA0]; simp [wordL]
              have HEA := hide eA
              clear eA eA0 HLT2 hwl HK0
              have hT2 : Bs b b A1 (wr.alloc (.cells #[.string tx, .bool true, .int .i64 pl] 40)) (wr.alloc (.cells #[.string tx, .bool true, .int .i64 pl] 40)) := Qt.Bs.start S2.bld S2.room
              go_wp2_with fail
              have hBw : Below w.heap.size w (wr.alloc (.cells #[.string tx, .bool true, .int .i64 pl] 40)) := Bs.words (Bs.then_ S2 hT2) hB0 hBs
              refine (quote_any tx hsx (wr.alloc (.cells #[.string tx, .bool true, .int .i64 pl] 40)) (tabs_below hT hBw h5) R off cap' (hS.below hBw (Nat.le_refl _))).mono ?_
              rintro e w4 ⟨rfl, hb4⟩
              have T4 := hT2.call hb4
              go_wp2_with fail
              refine (T4.str ⟨(quoteL tx).toArray⟩ (by rw [show (⟨(quoteL tx).toArray⟩ : ByteArray).size = (quoteL tx).length by show (quoteL tx).toArray.size = _; simp]; (try simp only [List.length_append, List.length_singleton]); omega)).mono ?_
              rintro e w5 ⟨rfl, T5⟩
              rw [← HEA.out] at T5
              have S5 := Bs.then_ S2 T5
              have hl5 : A2.length ≤ 1000000000 := by rw [HEA.out]; simp; omega
              clear HEA
              have LN := len_any b b A2 w5 T5.bld hl5
              have hB5 := Bs.words S5 hB0 hBs
              go_wp2_with fail
              refine LN.mono ?_; rintro e w6 ⟨rfl, hw⟩; obtain rfl := hw.symm
              by_cases h4 : 4096 < A2.length
              · have h4I : (4096 : Int) < (A2.length : Int) := by omega
                have HE : Hid (J = ([], 4096, 10)) := by
                  show _ = _
                  rw [HGO.out, if_pos (by have := HPR.out; omega)]
                clear HGO HPR HL
                go_wp2
                go_ret3
                exact ⟨by rw [HE.out]; rfl, hB5⟩
              · have h4I : ¬ (4096 : Int) < (A2.length : Int) := by omega
                have HL2 : Hid (A2.length ≤ 4096) := by show _ ≤ _; omega
                have HA2 := HA2
                clear HGO HPR HL
                go_wp2
                exact ⟨⟨k + 1, by go_num, by omega, by rw [HA2.out]; exact HL2, by rw [HA2.out]; exact S5⟩, by simp [intOf]; omega⟩
          · have HK0 : Hid (¬ k = 0) := hide hk0
            have hk0I : (0 : Int) < (k : Int) := by omega
            clear hk0
            cases qd
            · skip
              have eA0 : A2 = A1 ++ [32] ++ wordL (tx, false, pl) := by rw [HLT2.out]; congr 2; simp [HK0.out]
              have eA : A2 = A1 ++ [32] ++ tx.data.toList := by rw [eA0]; simp [wordL]
              have HEA := hide eA
              clear eA eA0 HLT2 hwl HK0
              have hT2 : Bs b b A1 (wr.alloc (.cells #[.string tx, .bool false, .int .i64 pl] 40)) (wr.alloc (.cells #[.string tx, .bool false, .int .i64 pl] 40)) := Qt.Bs.start S2.bld S2.room
              go_wp2_with fail
              refine (hT2.byte 32 32 rfl (by omega)).mono ?_
              rintro e w3 ⟨rfl, T3⟩
              have hx3 := Bs.word T3 hx2 hne
              have d0 : w3.cell? ⟨wr.heap.size, 0, none⟩ = some (.string tx) := by simp [World.cell?, hx3]
              have d1 : w3.cell? ⟨wr.heap.size, 1, none⟩ = some (.bool false) := by simp [World.cell?, hx3]
              go_wp2_with fail
              refine (T3.str tx (by simp; omega)).mono ?_
              rintro e w5 ⟨rfl, T5⟩
              rw [← HEA.out] at T5
              have S5 := Bs.then_ S2 T5
              have hl5 : A2.length ≤ 1000000000 := by rw [HEA.out]; simp; omega
              clear HEA
              have LN := len_any b b A2 w5 T5.bld hl5
              have hB5 := Bs.words S5 hB0 hBs
              go_wp2_with fail
              refine LN.mono ?_; rintro e w6 ⟨rfl, hw⟩; obtain rfl := hw.symm
              by_cases h4 : 4096 < A2.length
              · have h4I : (4096 : Int) < (A2.length : Int) := by omega
                have HE : Hid (J = ([], 4096, 10)) := by
                  show _ = _
                  rw [HGO.out, if_pos (by have := HPR.out; omega)]
                clear HGO HPR HL
                go_wp2
                go_ret3
                exact ⟨by rw [HE.out]; rfl, hB5⟩
              · have h4I : ¬ (4096 : Int) < (A2.length : Int) := by omega
                have HL2 : Hid (A2.length ≤ 4096) := by show _ ≤ _; omega
                have HA2 := HA2
                clear HGO HPR HL
                go_wp2
                exact ⟨⟨k + 1, by go_num, by omega, by rw [HA2.out]; exact HL2, by rw [HA2.out]; exact S5⟩, by simp [intOf]; omega⟩
            · skip
              have eA0 : A2 = A1 ++ [32] ++ wordL (tx, true, pl) := by rw [HLT2.out]; congr 2; simp [HK0.out]
              have hql : (quoteL tx).length ≤ 11000000 := hwl
              have eA : A2 = A1 ++ [32] ++ (⟨(quoteL tx).toArray⟩ : ByteArray).data.toList := by rw [eA0]; simp [wordL]
              have HEA := hide eA
              clear eA eA0 HLT2 hwl HK0
              have hT2 : Bs b b A1 (wr.alloc (.cells #[.string tx, .bool true, .int .i64 pl] 40)) (wr.alloc (.cells #[.string tx, .bool true, .int .i64 pl] 40)) := Qt.Bs.start S2.bld S2.room
              go_wp2_with fail
              refine (hT2.byte 32 32 rfl (by omega)).mono ?_
              rintro e w3 ⟨rfl, T3⟩
              have hx3 := Bs.word T3 hx2 hne
              have d0 : w3.cell? ⟨wr.heap.size, 0, none⟩ = some (.string tx) := by simp [World.cell?, hx3]
              have d1 : w3.cell? ⟨wr.heap.size, 1, none⟩ = some (.bool true) := by simp [World.cell?, hx3]
              go_wp2_with fail
              have hBw : Below w.heap.size w w3 := Bs.words (Bs.then_ S2 T3) hB0 hBs
              refine (quote_any tx hsx w3 (tabs_below hT hBw h5) R off cap' (hS.below hBw (Nat.le_refl _))).mono ?_
              rintro e w4 ⟨rfl, hb4⟩
              have T4 := T3.call hb4
              go_wp2_with fail
              refine (T4.str ⟨(quoteL tx).toArray⟩ (by rw [show (⟨(quoteL tx).toArray⟩ : ByteArray).size = (quoteL tx).length by show (quoteL tx).toArray.size = _; simp]; (try simp only [List.length_append, List.length_singleton]); omega)).mono ?_
              rintro e w5 ⟨rfl, T5⟩
              rw [← HEA.out] at T5
              have S5 := Bs.then_ S2 T5
              have hl5 : A2.length ≤ 1000000000 := by rw [HEA.out]; simp; omega
              clear HEA
              have LN := len_any b b A2 w5 T5.bld hl5
              have hB5 := Bs.words S5 hB0 hBs
              go_wp2_with fail
              refine LN.mono ?_; rintro e w6 ⟨rfl, hw⟩; obtain rfl := hw.symm
              by_cases h4 : 4096 < A2.length
              · have h4I : (4096 : Int) < (A2.length : Int) := by omega
                have HE : Hid (J = ([], 4096, 10)) := by
                  show _ = _
                  rw [HGO.out, if_pos (by have := HPR.out; omega)]
                clear HGO HPR HL
                go_wp2
                go_ret3
                exact ⟨by rw [HE.out]; rfl, hB5⟩
              · have h4I : ¬ (4096 : Int) < (A2.length : Int) := by omega
                have HL2 : Hid (A2.length ≤ 4096) := by show _ ≤ _; omega
                have HA2 := HA2
                clear HGO HPR HL
                go_wp2
                exact ⟨⟨k + 1, by go_num, by omega, by rw [HA2.out]; exact HL2, by rw [HA2.out]; exact S5⟩, by simp [intOf]; omega⟩
        · have hge : ¬ (k : Int) < (N : Int) := by omega
          have hkN : k = N := by omega
          have HE : Hid (J = (lineA true (l.take k), 0, 0)) := by
            show _ = _
            have e : lineA true (l.take k) = lineA true l := by rw [hkN, ← HN.out]; exact HTLh.out
            have h4 := HL.out
            rw [e] at h4 ⊢
            rw [HGO.out, if_neg (by omega)]
          clear HGO hkN HLT HLP HTLh
          have ST := Bu.string b b (lineA true (l.take k)) wr S1.bld S1.room
          generalize lineA true (l.take k) = A1 at *
          go_wp2_with fail
          refine ST.mono ?_
          rintro e w2 ⟨rfl, _, hbl2, _⟩
          go_wp2
          go_ret3
          exact ⟨by rw [HE.out]; rfl, hBr.trans (hbl2.mono (by omega))⟩
end Go.Proofs.YtckjededijgjgaaDoor.Jn
namespace Go.Proofs.YtckjededijgjgaaDoor.Jn
open Go.RowKit
open Go.Proofs.YtckjededijgjgaaDoor.Bw (bareOk refBare_any)
open Go.Proofs.YtckjededijgjgaaDoor.Qt (quoteL qS refQuote_any)
open Go.Proofs.YtckjededijgjgaaDoor.Uq (three)
open Go.Proofs.YtckjededijgjgaaDoor.Rn (bcs bcs_append conv_row info5 own_below strCells_is)
open Go.Proofs.YtckjededijgjgaaDoor.Wd (new1)
set_option linter.unusedVariables false

theorem own_grown {w w0 w1 : World} {base n : Nat} {v : Value} {l : List Value} (hrow : w0.ownsRow base 5 1 v n l) (hB : Below base w w0) (hs : base ≤ w0.heap.size) (hgrow : w0.grownBy w1 v.ownBlock) : Below base w w1 :=
  hB.grown hgrow hs (fun j ej => by
    rcases hrow.2 with ⟨hv0, _⟩ | ⟨g, cap, cur, hv0, hgb, _⟩
    · rw [hv0] at ej; cases ej
    · rw [hv0] at ej; cases ej; exact hgb)

theorem own_snoc {W : World} {base : Nat} {v : Value} {A : List UInt8} (h : W.ownsRow base 5 1 v (A.length + 1) (bcs A ++ [.int .u8 32])) : W.ownsRow base 5 1 v (A ++ [32]).length (bcs (A ++ [32])) := by
  rw [List.length_append, bcs_append]; exact h

set_option maxRecDepth 100000 in
set_option maxHeartbeats 4000000 in
theorem refJoin_any (l : List W3) (hz : ∀ x ∈ l, x.1.size ≤ 1048576) (w : World) (ad : Option Addr) (cap : Nat) (hW : Ws w ad l) :
    Calls Tryd.prog 29 #[.slice ad l.length cap] w fun e w' => e = .returned (three (joinG l)) ∧ Below w.heap.size w w' := by
  obtain ⟨i0, hi0, hz0, hz1, hz2⟩ := info_parts info5
  by_cases hbig : 64 < l.length
  · rw [joinG_many hbig]
    have hbI : (64 : Int) < (l.length : Int) := by omega
    clear hz hW
    generalize l.length = N at *
    go_enter Tryd.func29, Tryd.ntmps29
    go_wp2
    go_ret3
    exact ⟨rfl, Below.refl _ _⟩
  have BD := fun k hk hb hx => joinG_bad (l := l) (k := k) hbig hk hb hx
  have GD := fun hb => joinG_good (l := l) hbig hb
  have LT := fun k hk => lineA_take l k true hk
  have WL := fun k (hk : k < l.length) => wordL_len l[k] (hz _ (List.getElem_mem hk))
  have HZ := fun k (hk : k < l.length) => hz l[k] (List.getElem_mem hk)
  have HTL : lineA true (l.take l.length) = lineA true l := by rw [List.take_length]
  have HBD := hide BD
  have HGD := hide GD
  have HLT := hide LT
  have HWL := hide WL
  have HHZ := hide HZ
  have HTLh := hide HTL
  have HWs := hide hW
  clear BD GD LT WL HZ hz hW HTL
  obtain ⟨J, hJ⟩ : ∃ J, joinG l = J := ⟨_, rfl⟩
  have HJ := hide hJ
  rw [hJ]
  clear hJ
  obtain ⟨N, hN⟩ : ∃ N, l.length = N := ⟨_, rfl⟩
  have HN := hide hN
  rw [hN] at hbig ⊢
  clear hN
  have hNI : (N : Int) ≤ 64 := by omega
  have hN64 : N ≤ 64 := by omega
  clear hbig
  go_enter Tryd.func29, Tryd.ntmps29
  go_wp2_with fail
  go_loopw [5, 6] (fun b kv wr => ∃ (k : Nat), kv = .int .i64 (k : Int) ∧ k ≤ N ∧ Below w.heap.size w wr ∧ Hid (∀ j (hj : j < l.length), j < k → badW l[j] = false) ∧ wr.ownsRow w.heap.size 5 1 b (lineA true (l.take k)).length (bcs (lineA true (l.take k))) ∧ Hid ((lineA true (l.take k)).length ≤ k * 11000001)) (fun _ kv _ => N - (intOf kv).toNat)
  case atStart => exact ⟨0, rfl, by omega, Below.refl _ _, fun j hj h => by omega, World.ownsRow_nil _ _ _ _, by show _ ≤ _; simp [lineA]⟩
  case round =>
    obtain ⟨k, rfl, hk, hB, HI, hrow, HL⟩ := hrel
    by_cases hlt : k < N
    · have hkl : k < l.length := by rw [HN.out]; exact hlt
      obtain ⟨g, o, rfl, hg, c0, c1, c2⟩ := (HWs.out.below hB (Nat.le_refl _)) k hkl
      have hltI : (k : Int) < (N : Int) := by omega
      have hsz := HHZ.out k hkl
      have hwl := HWL.out k hkl
      have HNX : Hid (badW l[k] = false → ∀ j (hj : j < l.length), j < k + 1 → badW l[j] = false) := by
        intro hx j hj hjk
        by_cases e : j = k
        · subst e; exact hx
        · exact HI.out j hj (by omega)
      have HBX : Hid (badW l[k] = true → J = ([], (k : Int), 14)) := by
        intro hx
        rw [← HJ.out]
        exact HBD.out k hkl HI.out hx
      have HLT2 := hide (HLT.out k hkl)
      have hLL := HL.out
      have hAl : (lineA true (l.take k)).length ≤ 704000064 := by omega
      generalize hA2 : lineA true (l.take (k + 1)) = A2 at *
      have HA2 := hide hA2
      clear hA2
      generalize lineA true (l.take k) = A1 at *
      generalize l[k] = x at *
      obtain ⟨tx, qd, pl⟩ := x
      simp only at c0 c1 c2 hsz
      have hBs := hB.size
      have BR := refBare_any tx (by omega) wr
      have QT := refQuote_any tx hsz wr
      cases qd
      · clear QT
        cases hbo : bareOk tx
        · have HE : Hid (J = ([], (k : Int), 14)) := HBX.out (by unfold badW; simp [hbo])
          rw [hbo] at BR
          clear HNX HBX HI hbo HLT2 HL hLL
          go_wp2_with fail
          refine BR.mono ?_; rintro e w2 ⟨rfl, hb2⟩
          go_wp2
          go_ret3
          exact ⟨by rw [HE.out]; rfl, hB.trans (hb2.mono hB.size)⟩
        · have HI2 : Hid (∀ j (hj : j < l.length), j < k + 1 → badW l[j] = false) := HNX.out (by unfold badW; simp [hbo])
          rw [hbo] at BR
          clear HNX HBX HI hbo
          by_cases hk0 : k = 0
          · have HK0 := hide hk0
            have hk0I : ¬ (0 : Int) < (k : Int) := by omega
            clear hk0
            have eA0 : A2 = A1 ++ [] ++ wordL (tx, false, pl) := by rw [HLT2.out]; congr 2; simp [HK0.out]
            have hxl : (tx : ByteArray).data.toList.length = (tx : ByteArray).size := by rw [Array.length_toList]; rfl
            have hxs : tx.size ≤ 11000000 := by omega
            have eA : A2 = A1 ++ (tx : ByteArray).data.toList := by rw [eA0]; simp [wordL]
            have HEA := hide eA
            have HL2 : Hid (A2.length ≤ (k + 1) * 11000001) := by show _ ≤ _; rw [eA]; rw [List.length_append, hxl]; (try simp only [List.length_append, List.length_singleton]); omega
            clear eA eA0 HLT2 hwl HK0 HL hLL
            obtain ⟨XX, hXX⟩ : ∃ XX, tx = XX := ⟨_, rfl⟩
            subst hXX
            go_wp2_with fail
            refine BR.mono ?_; rintro e w2 ⟨rfl, hb2⟩
            have hown2 := own_below hrow hb2
            have hB2 := hB.trans (hb2.mono hB.size)
            have hBs2 := hB2.size
            go_wp2_with (at_builtin; refine Lib.wpList_append_own_string _ rfl _ _ 75 9 rfl w.heap.size 5 i0 Tryd.underlying75 Tryd.underlying9 hi0 hz0 hz1 hz2 _ A1.length (bcs A1) rfl hown2 tx rfl ?ta1 ?tb1 ?tc1 ?_; rotate_left 3; intro v5 w5 hown5 hgrow5 _)
            · have hB5 := own_grown hown2 hB2 hB2.size hgrow5
              refine ⟨⟨k + 1, by go_num, by omega, hB5, HI2, ?_, ?_⟩, by simp [intOf]; omega⟩
              · rw [HA2.out, HEA.out, List.length_append, bcs_append, hxl]
                rw [Ur.strCells_own] at hown5
                exact hown5
              · rw [HA2.out]; exact HL2
            all_goals (try (case ta1 => unfold maxLen; (try simp only [List.length_append, List.length_singleton]); omega))
            all_goals (try (case tb1 => (try simp only [List.length_append, List.length_singleton]); omega))
            all_goals (try (case tc1 => omega))
          · have HK0 : Hid (¬ k = 0) := hide hk0
            have hk0I : (0 : Int) < (k : Int) := by omega
            clear hk0
            have eA0 : A2 = A1 ++ [32] ++ wordL (tx, false, pl) := by rw [HLT2.out]; congr 2; simp [HK0.out]
            have hxl : (tx : ByteArray).data.toList.length = (tx : ByteArray).size := by rw [Array.length_toList]; rfl
            have hxs : tx.size ≤ 11000000 := by omega
            have eA : A2 = A1 ++ [32] ++ (tx : ByteArray).data.toList := by rw [eA0]; simp [wordL]
            have HEA := hide eA
            have HL2 : Hid (A2.length ≤ (k + 1) * 11000001) := by show _ ≤ _; rw [eA]; rw [List.length_append, hxl]; (try simp only [List.length_append, List.length_singleton]); omega
            clear eA eA0 HLT2 hwl HK0 HL hLL
            obtain ⟨XX, hXX⟩ : ∃ XX, tx = XX := ⟨_, rfl⟩
            subst hXX
            go_wp2_with fail
            refine BR.mono ?_; rintro e w2 ⟨rfl, hb2⟩
            have hown2 := own_below hrow hb2
            have hB2 := hB.trans (hb2.mono hB.size)
            have hBs2 := hB2.size
            go_wp2_with (first | (at_builtin; refine wpList_append_own _ rfl _ _ 75 rfl w.heap.size 5 i0 _ 1 1 Tryd.underlying75 hi0 hz0 hz1 hz2 rfl (by decide) _ _ _ rfl (hown2.alloc _) ⟨w2.heap.size, 0, none⟩ 1 1 [.int .u8 32] rfl rfl (new1 _) (by simp [Value.oneCell']) ?sa2 ?sb2 ?sc2 ?_; rotate_left 3; intro v3 w3 hown3 hgrow3 _) | (at_builtin; (refine Lib.wpList_append_own_string _ rfl _ _ 75 9 rfl w.heap.size 5 i0 Tryd.underlying75 Tryd.underlying9 hi0 hz0 hz1 hz2 _ _ _ rfl hown3 tx rfl ?ta2 ?tb2 ?tc2 ?_); rotate_left 3; intro v5 w5 hown5 hgrow5 _))
            all_goals (try (case sa2 => unfold maxLen; omega))
            all_goals (try (case sb2 => omega))
            all_goals (try (case sc2 => simp; omega))
            have hB3 := own_grown (hown2.alloc _) (hB2.alloc hB2.size _) (by simp; omega) hgrow3
            have hBs3 := hB3.size
            · have hB5 := own_grown hown3 hB3 hB3.size hgrow5
              refine ⟨⟨k + 1, by go_num, by omega, hB5, HI2, ?_, ?_⟩, by simp [intOf]; omega⟩
              · rw [HA2.out, HEA.out, List.length_append, bcs_append, hxl, List.length_append, bcs_append]
                rw [Ur.strCells_own] at hown5
                exact hown5
              · rw [HA2.out]; exact HL2
            all_goals (try (case ta2 => unfold maxLen; (try simp only [List.length_append, List.length_singleton]); omega))
            all_goals (try (case tb2 => (try simp only [List.length_append, List.length_singleton]); omega))
            all_goals (try (case tc2 => have h3 := hgrow3.size; simp only [World.size_alloc] at h3; omega))
      · have HI2 : Hid (∀ j (hj : j < l.length), j < k + 1 → badW l[j] = false) := HNX.out (by unfold badW; simp)
        clear HNX HBX HI BR
        by_cases hk0 : k = 0
        · have HK0 := hide hk0
          have hk0I : ¬ (0 : Int) < (k : Int) := by omega
          clear hk0
          have eA0 : A2 = A1 ++ [] ++ wordL (tx, true, pl) := by rw [HLT2.out]; congr 2; simp [HK0.out]
          have hxl : (⟨(quoteL tx).toArray⟩ : ByteArray).data.toList.length = (⟨(quoteL tx).toArray⟩ : ByteArray).size := by rw [Array.length_toList]; rfl
          have hqz : (⟨(quoteL tx).toArray⟩ : ByteArray).data.toList.length = (quoteL tx).length := by simp
          have hxs : (⟨(quoteL tx).toArray⟩ : ByteArray).size ≤ 11000000 := by rw [show (⟨(quoteL tx).toArray⟩ : ByteArray).size = (quoteL tx).length by show (quoteL tx).toArray.size = _; simp]; exact hwl
          have eA : A2 = A1 ++ (⟨(quoteL tx).toArray⟩ : ByteArray).data.toList := by rw [eA0]; simp [wordL]
          have HEA := hide eA
          have HL2 : Hid (A2.length ≤ (k + 1) * 11000001) := by show _ ≤ _; rw [eA]; rw [List.length_append, hxl]; (try simp only [List.length_append, List.length_singleton]); omega
          clear eA eA0 HLT2 hwl HK0 HL hLL
          generalize hXX : (⟨(quoteL tx).toArray⟩ : ByteArray) = XX at *
          clear hXX
          go_wp2_with fail
          refine QT.mono ?_; rintro e w2 ⟨rfl, hb2⟩
          have hown2 := own_below hrow hb2
          have hB2 := hB.trans (hb2.mono hB.size)
          have hBs2 := hB2.size
          go_wp2_with (at_builtin; refine Lib.wpList_append_own_string _ rfl _ _ 75 9 rfl w.heap.size 5 i0 Tryd.underlying75 Tryd.underlying9 hi0 hz0 hz1 hz2 _ A1.length (bcs A1) rfl hown2 XX rfl ?ta3 ?tb3 ?tc3 ?_; rotate_left 3; intro v5 w5 hown5 hgrow5 _)
          · have hB5 := own_grown hown2 hB2 hB2.size hgrow5
            refine ⟨⟨k + 1, by go_num, by omega, hB5, HI2, ?_, ?_⟩, by simp [intOf]; omega⟩
            · rw [HA2.out, HEA.out, List.length_append, bcs_append, hxl]
              rw [Ur.strCells_own] at hown5
              exact hown5
            · rw [HA2.out]; exact HL2
          all_goals (try (case ta3 => unfold maxLen; (try simp only [List.length_append, List.length_singleton]); omega))
          all_goals (try (case tb3 => (try simp only [List.length_append, List.length_singleton]); omega))
          all_goals (try (case tc3 => omega))
        · have HK0 : Hid (¬ k = 0) := hide hk0
          have hk0I : (0 : Int) < (k : Int) := by omega
          clear hk0
          have eA0 : A2 = A1 ++ [32] ++ wordL (tx, true, pl) := by rw [HLT2.out]; congr 2; simp [HK0.out]
          have hxl : (⟨(quoteL tx).toArray⟩ : ByteArray).data.toList.length = (⟨(quoteL tx).toArray⟩ : ByteArray).size := by rw [Array.length_toList]; rfl
          have hqz : (⟨(quoteL tx).toArray⟩ : ByteArray).data.toList.length = (quoteL tx).length := by simp
          have hxs : (⟨(quoteL tx).toArray⟩ : ByteArray).size ≤ 11000000 := by rw [show (⟨(quoteL tx).toArray⟩ : ByteArray).size = (quoteL tx).length by show (quoteL tx).toArray.size = _; simp]; exact hwl
          have eA : A2 = A1 ++ [32] ++ (⟨(quoteL tx).toArray⟩ : ByteArray).data.toList := by rw [eA0]; simp [wordL]
          have HEA := hide eA
          have HL2 : Hid (A2.length ≤ (k + 1) * 11000001) := by show _ ≤ _; rw [eA]; rw [List.length_append, hxl]; (try simp only [List.length_append, List.length_singleton]); omega
          clear eA eA0 HLT2 hwl HK0 HL hLL
          generalize hXX : (⟨(quoteL tx).toArray⟩ : ByteArray) = XX at *
          clear hXX
          go_wp2_with fail
          refine QT.mono ?_; rintro e w2 ⟨rfl, hb2⟩
          have hown2 := own_below hrow hb2
          have hB2 := hB.trans (hb2.mono hB.size)
          have hBs2 := hB2.size
          go_wp2_with (first | (at_builtin; refine wpList_append_own _ rfl _ _ 75 rfl w.heap.size 5 i0 _ 1 1 Tryd.underlying75 hi0 hz0 hz1 hz2 rfl (by decide) _ _ _ rfl (hown2.alloc _) ⟨w2.heap.size, 0, none⟩ 1 1 [.int .u8 32] rfl rfl (new1 _) (by simp [Value.oneCell']) ?sa4 ?sb4 ?sc4 ?_; rotate_left 3; intro v3 w3 hown3 hgrow3 _) | (at_builtin; (refine Lib.wpList_append_own_string _ rfl _ _ 75 9 rfl w.heap.size 5 i0 Tryd.underlying75 Tryd.underlying9 hi0 hz0 hz1 hz2 _ _ _ rfl hown3 XX rfl ?ta4 ?tb4 ?tc4 ?_); rotate_left 3; intro v5 w5 hown5 hgrow5 _))
          all_goals (try (case sa4 => unfold maxLen; omega))
          all_goals (try (case sb4 => omega))
          all_goals (try (case sc4 => simp; omega))
          have hB3 := own_grown (hown2.alloc _) (hB2.alloc hB2.size _) (by simp; omega) hgrow3
          have hBs3 := hB3.size
          · have hB5 := own_grown hown3 hB3 hB3.size hgrow5
            refine ⟨⟨k + 1, by go_num, by omega, hB5, HI2, ?_, ?_⟩, by simp [intOf]; omega⟩
            · rw [HA2.out, HEA.out, List.length_append, bcs_append, hxl, List.length_append, bcs_append]
              rw [Ur.strCells_own] at hown5
              exact hown5
            · rw [HA2.out]; exact HL2
          all_goals (try (case ta4 => unfold maxLen; (try simp only [List.length_append, List.length_singleton]); omega))
          all_goals (try (case tb4 => (try simp only [List.length_append, List.length_singleton]); omega))
          all_goals (try (case tc4 => have h3 := hgrow3.size; simp only [World.size_alloc] at h3; omega))
    · have hge : ¬ (k : Int) < (N : Int) := by omega
      have hkN : k = N := by omega
      have eL : lineA true (l.take k) = lineA true l := by rw [hkN, ← HN.out]; exact HTLh.out
      have HGO : Hid (J = if 4096 < (lineA true l).length then ([], 4096, 10) else (lineA true l, 0, 0)) := by
        show _ = _
        rw [← HJ.out]
        exact HGD.out (fun j hj => HI.out j hj (by rw [HN.out] at hj; omega))
      have hLL := HL.out
      have hAl : (lineA true (l.take k)).length ≤ 704000064 := by omega
      rw [eL] at hrow hAl
      clear HI HBD HGD HJ HL HLT hLL hkN eL HTLh HWL HWs HHZ
      have kc := conv_row hrow
      generalize lineA true l = A1 at *
      obtain ⟨ad1, cp1, hv⟩ : ∃ ad cp, u5 = .slice ad A1.length cp := by
        rcases hrow.2 with ⟨hv0, h0⟩ | ⟨g, cap, cur, hv0, _⟩
        · exact ⟨_, _, by rw [hv0, h0]⟩
        · exact ⟨_, _, hv0⟩
      subst hv
      by_cases h4 : 4096 < A1.length
      · have h4I : (4096 : Int) < (A1.length : Int) := by omega
        have HE : Hid (J = ([], 4096, 10)) := by show _ = _; rw [HGO.out, if_pos h4]
        clear HGO
        go_wp2
        go_ret3
        exact ⟨by rw [HE.out]; rfl, hB⟩
      · have h4I : ¬ (4096 : Int) < (A1.length : Int) := by omega
        have HE : Hid (J = (A1, 0, 0)) := by show _ = _; rw [HGO.out, if_neg h4]
        clear HGO
        go_wp2
        go_ret3
        exact ⟨by rw [HE.out]; rfl, hB⟩
end Go.Proofs.YtckjededijgjgaaDoor.Jn
namespace Go.Proofs.YtckjededijgjgaaDoor.Jn
open Go.RowKit
open Go.Proofs.YtckjededijgjgaaDoor.Enc (Spans)
open Go.Proofs.YtckjededijgjgaaDoor.Hx (Tabs)
open Go.Proofs.YtckjededijgjgaaDoor.Qt (tabs_below)
open Go.Proofs.YtckjededijgjgaaDoor.Uq (three)
set_option linter.unusedVariables false

theorem info40 : (Tryd.prog.info? 40).map (fun i => (i.zero, i.size, i.bytes)) = some (some (.agg #[.string ⟨#[]⟩, .bool false, .int .i64 0]), 3, 32) := by kernel_rfl
theorem info41 : (Tryd.prog.info? 41).map (fun i => (i.zero, i.size, i.bytes)) = some (some (.agg #[.string ⟨#[]⟩, .bool false, .int .i64 0]), 3, 32) := by kernel_rfl

def cells3 (x : W3) : List Value := [.string x.1, .bool x.2.1, .int .i64 x.2.2]
def cellsW (l : List W3) : List Value := l.flatMap cells3
theorem cellsW_snoc (l : List W3) (x : W3) : cellsW (l ++ [x]) = cellsW l ++ cells3 x := by simp [cellsW]
theorem cellsW_get : ∀ (l : List W3) (k : Nat) (hk : k < l.length) (j : Nat), j < 3 → (cellsW l)[k * 3 + j]? = (cells3 l[k])[j]?
  | [], k, hk, _, _ => by simp at hk
  | x :: t, 0, hk, j, hj => by
    show (cells3 x ++ cellsW t)[0 * 3 + j]? = _
    rw [Nat.zero_mul, Nat.zero_add, List.getElem?_append_left (by simpa [cells3] using hj)]
    rfl
  | x :: t, k + 1, hk, j, hj => by
    have hk' : k < t.length := by simpa using hk
    have := cellsW_get t k hk' j hj
    show (cells3 x ++ cellsW t)[(k + 1) * 3 + j]? = (cells3 t[k])[j]?
    rw [List.getElem?_append_right (by simp [cells3]; omega), show (k + 1) * 3 + j - (cells3 x).length = k * 3 + j by simp [cells3]; omega, this]
theorem new3 (W : World) (x : W3) (t : TypeId) (j : Nat) (u : Value) (h : (cells3 x)[j]? = some u) : (W.alloc (.cells #[.string x.1, .bool x.2.1, .int .i64 x.2.2] t)).cell? ((⟨W.heap.size, 0, none⟩ : Addr).add j) = some u := by
  rw [Pc.addP, World.cell?_alloc_new, Nat.zero_add]
  simpa [cells3] using h
theorem one3 (x : W3) : ∀ u ∈ cells3 x, u.oneCell' = true := by
  intro u hu
  simp [cells3] at hu
  rcases hu with rfl | rfl | rfl <;> rfl

/-- a row of words, as a slice -/
theorem ws_of {w : World} {base : Nat} {v : Value} {t : TypeId} {l : List W3} (h : w.ownsRow base t 3 v l.length (cellsW l)) : ∃ ad cap, v = .slice ad l.length cap ∧ Ws w ad l ∧ ∀ k (hk : k < l.length), ∃ g, ad = some ⟨g, 0, none⟩ := by
  rcases h.2 with ⟨rfl, h0⟩ | ⟨g, cap, cur, rfl, hgb, hg, hc1, hc2, hc3, ht⟩
  · refine ⟨_, _, by rw [h0], fun k hk => ?_, fun k hk => ?_⟩
    · rw [h0] at hk; omega
    · rw [h0] at hk; omega
  · refine ⟨_, _, rfl, fun k hk => ⟨g, 0, rfl, (Array.getElem?_eq_some_iff.1 hg).1, ?_⟩, fun k hk => ⟨g, rfl⟩⟩
    have cell : ∀ j, j < 3 → w.cell? ⟨g, k * 3 + j, none⟩ = (cells3 l[k])[j]? := fun j hj => by
      have h1 := cellsW_get l k hk j hj
      rw [← ht] at h1
      have hlt : k * 3 + j < l.length * 3 := by omega
      rw [List.getElem?_take_of_lt hlt, Array.getElem?_toList] at h1
      rw [← h1]
      simp [World.cell?, hg]
    have e0 := cell 0 (by omega)
    have e1 := cell 1 (by omega)
    have e2 := cell 2 (by omega)
    simp only [Nat.zero_add]
    exact ⟨e0, e1, e2⟩

theorem box_grow {W W' : World} {base n b : Nat} {v : Value} {xs : List Value} {e t : TypeId} {c : Array Value} (hown : W.ownsRow base e 3 v n xs) (hg : W.grownBy W' v.ownBlock) (hb : W.heap[b]? = some (.cells c t (0, 0))) (ht : t ≠ e) : W'.heap[b]? = some (.cells c t (0, 0)) := by
  refine (hg.block b (Array.getElem?_eq_some_iff.1 hb).1 (fun e' => ?_)).trans hb
  rcases hown.2 with ⟨rfl, _⟩ | ⟨g, cap, cur, rfl, _, hg', _⟩
  · cases e'
  · cases e'
    rw [hb] at hg'
    cases hg'
    exact ht rfl
theorem row_grow {W W' : World} {base n n' : Nat} {v v' : Value} {xs xs' : List Value} {e t : TypeId} (hown : W.ownsRow base e 3 v n xs) (hg : W.grownBy W' v.ownBlock) (hk : W.ownsRow base t 3 v' n' xs') (ht : t ≠ e) : W'.ownsRow base t 3 v' n' xs' := by
  refine hk.kept hg ?_
  rcases hk.2 with ⟨rfl, _⟩ | ⟨g, cap, cur, rfl, _, hg', _⟩
  · exact .inl rfl
  · right
    rcases hown.2 with ⟨rfl, _⟩ | ⟨g2, cap2, cur2, rfl, _, hg2, _⟩
    · intro e'; cases e'
    · intro e'
      cases e'
      rw [hg'] at hg2
      cases hg2
      exact ht rfl
theorem own3_grown {w w0 w1 : World} {base n : Nat} {e : TypeId} {v : Value} {l : List Value} (hrow : w0.ownsRow base e 3 v n l) (hB : Below base w w0) (hs : base ≤ w0.heap.size) (hgrow : w0.grownBy w1 v.ownBlock) : Below base w w1 :=
  hB.grown hgrow hs (fun j ej => by
    rcases hrow.2 with ⟨hv0, _⟩ | ⟨g, cap, cur, hv0, hgb, _⟩
    · rw [hv0] at ej; cases ej
    · rw [hv0] at ej; cases ej; exact hgb)
theorem cells_of {W : World} {b : Nat} {x : W3} (h : W.heap[b]? = some (.cells #[.string x.1, .bool x.2.1, .int .i64 x.2.2] 40 (0, 0))) : W.cell? ⟨b, 0, none⟩ = some (.string x.1) ∧ W.cell? ⟨b, 1, none⟩ = some (.bool x.2.1) ∧ W.cell? ⟨b, 2, none⟩ = some (.int .i64 x.2.2) := by
  refine ⟨?_, ?_, ?_⟩ <;> simp [World.cell?, h]
end Go.Proofs.YtckjededijgjgaaDoor.Jn
namespace Go.Proofs.YtckjededijgjgaaDoor.Jn
open Go.RowKit
open Go.Proofs.YtckjededijgjgaaDoor.Enc (Spans)
open Go.Proofs.YtckjededijgjgaaDoor.Hx (Tabs)
open Go.Proofs.YtckjededijgjgaaDoor.Qt (tabs_below)
open Go.Proofs.YtckjededijgjgaaDoor.Uq (three)
set_option linter.unusedVariables false

theorem str_beq (a : List UInt8) : ((⟨a.toArray⟩ : ByteArray).toList == (⟨a.toArray⟩ : ByteArray).toList) = true := by simp
theorem take_snoc {l : List W3} {k : Nat} (h : k < l.length) : l.take (k + 1) = l.take k ++ [l[k]] := by rw [List.take_succ_eq_append_getElem h]
theorem take_len {l : List W3} {k : Nat} (h : k ≤ l.length) : (l.take k).length = k := by rw [List.length_take]; omega

/-- the first loop's round: both rows grow by the word -/
theorem grow_both {w wr w3 : World} {x : W3} {vm vk : Value} {k : Nat} {xs : List Value} {base : Nat}
    (hm : wr.ownsRow base 41 3 vm k xs) (hk : wr.ownsRow base 40 3 vk k xs) (hB : Below base w wr) (hs : base ≤ wr.heap.size)
    (hg3 : ((wr.alloc (.cells #[.string x.1, .bool x.2.1, .int .i64 x.2.2] 40)).alloc (.cells #[.string x.1, .bool x.2.1, .int .i64 x.2.2] 41)).grownBy w3 vm.ownBlock) :
    Below base w w3 ∧ w3.ownsRow base 40 3 vk k xs ∧ w3.heap[wr.heap.size]? = some (.cells #[.string x.1, .bool x.2.1, .int .i64 x.2.2] 40 (0, 0)) ∧ base ≤ w3.heap.size := by
  have hm2 := (hm.alloc (.cells #[.string x.1, .bool x.2.1, .int .i64 x.2.2] 40)).alloc (.cells #[.string x.1, .bool x.2.1, .int .i64 x.2.2] 41)
  have hk2 := (hk.alloc (.cells #[.string x.1, .bool x.2.1, .int .i64 x.2.2] 40)).alloc (.cells #[.string x.1, .bool x.2.1, .int .i64 x.2.2] 41)
  have hB2 : Below base w ((wr.alloc (.cells #[.string x.1, .bool x.2.1, .int .i64 x.2.2] 40)).alloc (.cells #[.string x.1, .bool x.2.1, .int .i64 x.2.2] 41)) := (hB.alloc hs _).alloc (by simp; omega) _
  have h3 := own3_grown hm2 hB2 (by simp; omega) hg3
  have hbx : ((wr.alloc (.cells #[.string x.1, .bool x.2.1, .int .i64 x.2.2] 40)).alloc (.cells #[.string x.1, .bool x.2.1, .int .i64 x.2.2] 41)).heap[wr.heap.size]? = some (.cells #[.string x.1, .bool x.2.1, .int .i64 x.2.2] 40 (0, 0)) := by
    have h1 := World.alloc_heap_new wr (.cells #[.string x.1, .bool x.2.1, .int .i64 x.2.2] 40)
    have h2 := (Below.refl _ (wr.alloc (.cells #[.string x.1, .bool x.2.1, .int .i64 x.2.2] 40))).alloc (Nat.le_refl _) (.cells #[.string x.1, .bool x.2.1, .int .i64 x.2.2] 41)
    exact (h2.block wr.heap.size (by simp)).trans h1
  refine ⟨h3, row_grow hm2 hg3 hk2 (by decide), box_grow hm2 hg3 hbx (by decide), ?_⟩
  have := hg3.size
  simp at this
  omega

set_option maxRecDepth 100000 in
set_option maxHeartbeats 4000000 in
theorem joins_walk (l : List W3) (hz : ∀ x ∈ l, x.1.size ≤ 1048576) (hl : l.length ≤ 1048576) (w : World) (ad : Option Addr) (cap : Nat) (hW : Ws w ad l) (hT : Tabs w) (R off cap' : Nat) (hS : Spans w R off cap') :
    Calls Tryd.prog 7 #[.slice ad l.length cap] w fun e w' => e = .returned (.bool true) ∧ Below w.heap.size w w' := by
  obtain ⟨i0, hi0, hz00, hz01, hz02⟩ := info_parts info40
  obtain ⟨i1, hi1, hz10, hz11, hz12⟩ := info_parts info41
  have nm := fun n w => Rn.num_any n w
  have h5 := hT.five
  have JN := fun (W : World) (hW' : Ws W ad l) (hT' : Tabs W) (hS' : Spans W R off cap') => join_any l hz W ad cap hW' hT' R off cap' hS'
  have RJ := fun (W : World) (ad : Option Addr) (cap : Nat) (hW' : Ws W ad l) => refJoin_any l hz W ad cap hW'
  have TK := fun k (h : k < l.length) => take_snoc h
  have TL := fun k (h : k ≤ l.length) => take_len h
  have HJN := hide JN
  have HRJ := hide RJ
  have HTK := hide TK
  have HTN := hide TL
  have HWs := hide hW
  have HTT : Hid (l.take l.length = l) := by show _ = _; rw [List.take_length]
  clear JN RJ TK TL hz hW
  obtain ⟨N, hN⟩ : ∃ N, l.length = N := ⟨_, rfl⟩
  have HN := hide hN
  have HNB : Hid (N ≤ 1048576) := by rw [← hN]; exact hl
  rw [hN] at HJN HRJ ⊢
  clear hN hl
  have hNI : (N : Int) ≤ 1048576 := by have := HNB.out; omega
  go_enter Tryd.func7, Tryd.ntmps7
  go_wp2_with fail
  go_loopw [3, 4, 5] (fun vm vk kv wr => ∃ (k : Nat), kv = .int .i64 (k : Int) ∧ Hid (k ≤ N) ∧ Below w.heap.size w wr ∧ wr.ownsRow w.heap.size 41 3 vm k (cellsW (l.take k)) ∧ wr.ownsRow w.heap.size 40 3 vk k (cellsW (l.take k))) (fun _ _ kv _ => N - (intOf kv).toNat)
  case atStart => exact ⟨0, rfl, by show _ ≤ _; omega, Below.refl _ _, World.ownsRow_nil _ _ _ _, World.ownsRow_nil _ _ _ _⟩
  case round =>
    obtain ⟨k, rfl, HK, hB, hm, hkp⟩ := hrel
    have hBs := hB.size
    by_cases hlt : k < N
    · have hkl : k < l.length := by rw [HN.out]; exact hlt
      obtain ⟨g, o, rfl, hg, c0, c1, c2⟩ := (HWs.out.below hB (Nat.le_refl _)) k hkl
      have hltI : (k : Int) < (N : Int) := by omega
      have HCW : Hid (cellsW (l.take (k + 1)) = cellsW (l.take k) ++ cells3 l[k]) := by
        show _ = _
        rw [HTK.out k hkl, cellsW_snoc]
      have HKN : Hid (k + 1 ≤ N ∧ N - (k + 1) < N - k ∧ k + 1 ≤ 1048576) := by have := HNB.out; exact ⟨by omega, by omega, by omega⟩
      have HLT := hide hlt
      generalize l[k] = x at *
      generalize cellsW (l.take k) = xs at *
      clear hlt hkl
      go_wp2_with (first | (at_builtin; refine wpList_append_own _ rfl _ _ 38 rfl w.heap.size 41 i1 _ 3 32 Tryd.underlying38 hi1 hz10 hz11 hz12 rfl (by decide) _ _ _ rfl ((hm.alloc _).alloc _) ⟨wr.heap.size + 1, 0, none⟩ 1 1 (cells3 x) rfl rfl (fun j u h => by have := new3 (wr.alloc (.cells #[.string x.1, .bool x.2.1, .int .i64 x.2.2] 40)) x 41 j u h; simpa using this) (one3 x) ?sa ?sb ?sc ?_; rotate_left 3; intro v3 w3 hown3 hgrow3 _; obtain ⟨hB3, hkp3, hbx3, hs3⟩ := grow_both hm hkp hB hBs hgrow3; obtain ⟨d0, d1, d2⟩ := cells_of hbx3) | (at_builtin; refine wpList_append_own _ rfl _ _ 37 rfl w.heap.size 40 i0 _ 3 32 Tryd.underlying37 hi0 hz00 hz01 hz02 rfl (by decide) _ _ _ rfl (hkp3.alloc _) ⟨w3.heap.size, 0, none⟩ 1 1 (cells3 x) rfl rfl (new3 w3 x 40) (one3 x) ?ta ?tb ?tc ?_; rotate_left 3; intro v5 w5 hown5 hgrow5 _))
      · obtain ⟨n1, n2, n3⟩ := HKN.out
        refine ⟨⟨k + 1, by go_num, n1, own3_grown (hkp3.alloc _) (hB3.alloc hB3.size _) (by simp; omega) hgrow5, ?_, ?_⟩, by simp only [intOf]; omega⟩
        · rw [HCW.out]
          exact row_grow (hkp3.alloc _) hgrow5 (hown3.alloc _) (by decide)
        · rw [HCW.out]
          exact hown5
      case ta => unfold maxLen; have := HKN.out; omega
      case tb => have := HKN.out; omega
      case tc => simp; omega
      case sa => unfold maxLen; have := HKN.out; omega
      case sb => have := HKN.out; omega
      case sc => simp; omega
    · have hge : ¬ (k : Int) < (N : Int) := by omega
      have hkN : k = N := by have := HK.out; omega
      rw [hkN, show l.take N = l by rw [← HN.out]; exact HTT.out] at hm hkp
      rw [← HN.out] at hm hkp
      obtain ⟨adm, capm, rfl, hWm, _⟩ := ws_of hm
      obtain ⟨adk, capk, rfl, hWk, hadk⟩ := ws_of hkp
      have J1 := HJN.out wr (HWs.out.below hB (Nat.le_refl _)) (tabs_below hT hB h5) (hS.below hB (Nat.le_refl _))
      have R1 := fun (W : World) (hb : Below wr.heap.size wr W) => HRJ.out W adm capm (hWm.below hb (Nat.le_refl _))
      have HR1 := hide R1
      have HWk := hide hWk
      have HAK := hide hadk
      clear HK hm hkp hkN HTK HTN HTT HJN HRJ R1 hWm hWk hadk hlt
      rw [HN.out]
      obtain ⟨a, p, e, hj⟩ : ∃ a p e, joinG l = (a, p, e) := ⟨_, _, _, rfl⟩
      rw [hj] at J1 HR1
      have b0 := str_beq a
      have bp : (p == p) = true := by simp
      have be : (e == e) = true := by simp
      clear hj
      have J1' : Calls Tryd.prog 28 #[.slice ad N cap] wr fun e' w' => e' = .returned (.tuple #[.string ⟨a.toArray⟩, .int .i64 p, .int .i64 e]) ∧ Below wr.heap.size wr w' := J1
      clear J1
      go_wp2_with fail
      refine J1'.mono ?_
      rintro e2 w2 ⟨rfl, hb2⟩
      have R2 : Calls Tryd.prog 29 #[.slice adm N capm] w2 fun e' w' => e' = .returned (.tuple #[.string ⟨a.toArray⟩, .int .i64 p, .int .i64 e]) ∧ Below w2.heap.size w2 w' := HR1.out w2 hb2
      clear HR1
      go_wp2_with fail
      refine R2.mono ?_
      rintro e2 w3 ⟨rfl, hb3⟩
      clear R2 J1'
      have hbr3 := hb2.trans (hb3.mono hb2.size)
      have hB3 := hB.trans (hbr3.mono hB.size)
      go_wp2_with fail
      refine (nm _ _).mono ?_; rintro e2 w4 ⟨rfl, hw⟩; obtain rfl := hw.symm
      have HW1 : Hid (Ws w3 ad l) := HWs.out.below hB3 (Nat.le_refl _)
      have HW2 : Hid (Ws w3 adk l) := HWk.out.below hbr3 (Nat.le_refl _)
      clear HWs HWk hb2 hb3 hbr3 b0 bp be
      go_wp2_with fail
      go_loopw [13] (fun kv wr => ∃ (k : Nat), kv = .int .i64 (k : Int) ∧ Hid (k ≤ N) ∧ ∃ n, wr = w3.drewN n) (fun kv _ => N - (intOf kv).toNat)
      case atStart => exact ⟨0, rfl, by show _ ≤ _; omega, 0, rfl⟩
      case round =>
        obtain ⟨k, rfl, HK, n, rfl⟩ := hrel
        by_cases hlt : k < N
        · have hkl : k < l.length := by rw [HN.out]; exact hlt
          obtain ⟨g, o, rfl, hg, c0, c1, c2⟩ := HW1.out k hkl
          obtain ⟨g2, o2, had2, hg2, d0, d1, d2⟩ := HW2.out k hkl
          obtain ⟨g3, had3⟩ := HAK.out k hkl
          rw [had3] at had2
          cases had2
          subst had3
          simp only [Nat.zero_add] at d0 d1 d2
          have hltI : (k : Int) < (N : Int) := by omega
          generalize l[k] = x at *
          obtain ⟨tx, qd, pl⟩ := x
          simp only at c0 c1 c2 d0 d1 d2
          have bs : (tx.toList == tx.toList) = true := by simp
          have bq : (qd == qd) = true := by simp
          have bpl : (pl == pl) = true := by simp
          have c0' : (w3.drewN n).cell? ⟨g, o + k * 3, none⟩ = some (.string tx) := c0
          have c1' : (w3.drewN n).cell? ⟨g, o + k * 3 + 1, none⟩ = some (.bool qd) := c1
          have c2' : (w3.drewN n).cell? ⟨g, o + k * 3 + 2, none⟩ = some (.int .i64 pl) := c2
          have d0' : (w3.drewN n).cell? ⟨g2, k * 3, none⟩ = some (.string tx) := d0
          have d1' : (w3.drewN n).cell? ⟨g2, k * 3 + 1, none⟩ = some (.bool qd) := d1
          have d2' : (w3.drewN n).cell? ⟨g2, k * 3 + 2, none⟩ = some (.int .i64 pl) := d2
          go_wp2_with fail
          go_quiet (fail)
          go_wp2
          exact ⟨⟨k + 1, by go_num, by show _ ≤ _; omega, _, rfl⟩, by simp only [intOf]; omega⟩
        · have hge : ¬ (k : Int) < (N : Int) := by omega
          go_wp2
          go_ret
          exact ⟨rfl, below_drewN hB3 n⟩
end Go.Proofs.YtckjededijgjgaaDoor.Jn
