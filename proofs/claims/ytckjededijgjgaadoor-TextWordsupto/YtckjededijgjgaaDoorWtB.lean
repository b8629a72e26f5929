import Derived.Test.YtckjededijgjgaaDoorWbA
import Derived.Maps.AppendAt
import Derived.Deep.RegionHeldLaw
import Derived.Test.YtckjededijgjgaaDoorJnE
import Derived.BigQuiet
import Derived.Deep.QuietTactic
namespace Go.Proofs.YtckjededijgjgaaDoor.Wo
open Go.Proofs.YtckjededijgjgaaDoor.Pc (P4 pieces piecesFrom piecesFrom_end pcF Ofs width_le)
open Go.Proofs.YtckjededijgjgaaDoor.Bw (blB bareG bfF bareOk)
open Go.Proofs.YtckjededijgjgaaDoor.Uq (rqG escAt escF)
open Go.Proofs.YtckjededijgjgaaDoor.Jn (W3)
open Go.Proofs.YtckjededijgjgaaDoor.Qt (ownB)
open Go.Proofs.YtckjededijgjgaaDoor.Wd (Bg bg_step bg_end)
open Go.Proofs.YtckjededijgjgaaDoor.Ur (atL at_bg)
set_option linter.unusedVariables false

theorem get_out {s : ByteArray} {i : Nat} (h : s.size ≤ i) : s.get! i = 0 := by
  have e : s.data.size ≤ i := h
  cases s with
  | mk a =>
    show a[i]! = 0
    rw [getElem!_neg a i (by simpa using e)]
    rfl
theorem get_tail (s : ByteArray) (p j : Nat) (hp : p ≤ s.size) : (tailS s p).get! j = s.get! (p + j) := by
  have hz := tail_size s p
  rcases Nat.lt_or_ge j (tailS s p).size with h | h
  · have h1 := Ft.get_list (tailS s p) j h
    have h2 := Ft.get_list s (p + j) (by omega)
    unfold tailS at h1
    rw [Lib.extract_data, List.take_of_length_le (by simp), List.getElem?_drop, h2] at h1
    exact (Option.some.inj h1).symm
  · rw [get_out h, get_out (by omega)]
theorem dec_tail (s : ByteArray) (p j : Nat) (hp : p ≤ s.size) : Utf8.decode (tailS s p) j = Utf8.decode s (p + j) := by
  rw [Lib.decode_at, Lib.decode_at, get_tail s p _ hp, get_tail s p _ hp, get_tail s p _ hp, get_tail s p _ hp, tail_size, show s.size - p - j = s.size - (p + j) by omega]
  rfl
/-- a piece, its place counted from p on -/
def sh (p : Nat) (x : P4) : P4 := (x.1, x.2.1 - (p : Int), x.2.2.1, x.2.2.2)
theorem pcF_tail (s : ByteArray) (p j : Nat) (hp : p ≤ s.size) : pcF (tailS s p) j = sh p (pcF s (p + j)) := by
  unfold Pc.pcF
  rw [dec_tail s p j hp, get_tail s p j hp]
  split
  · simp only [sh, Prod.mk.injEq, true_and, and_true]; omega
  · simp only [sh, Prod.mk.injEq, true_and, and_true]; omega
theorem from_tail (s : ByteArray) (p : Nat) (hp : p ≤ s.size) (f : Nat) : ∀ j, piecesFrom (tailS s p) f j = (piecesFrom s f (p + j)).map (sh p) := by
  induction f with
  | zero => intro j; rw [piecesFrom, piecesFrom]; rfl
  | succ f ih =>
    intro j
    have hz := tail_size s p
    by_cases h : p + j < s.size
    · rw [Pc.piecesFrom, if_pos (by omega), Pc.piecesFrom, if_pos h, List.map_cons, ← pcF_tail s p j hp, dec_tail s p j hp, ih, Nat.add_assoc]
    · rw [piecesFrom_end _ _ _ (by omega), piecesFrom_end _ _ _ h]; rfl
theorem pieces_tail {s : ByteArray} {i p : Nat} (h : Bg s i p) : pieces (tailS s p) = ((pieces s).drop i).map (sh p) ∧ p ≤ s.size ∧ ∀ x ∈ (pieces s).drop i, ∃ q k : Nat, x.2.1 = (q : Int) ∧ p ≤ q ∧ x.2.2.1 = (k : Int) ∧ q + k ≤ s.size := by
  obtain ⟨f, h1, h2, h3⟩ := h
  refine ⟨?_, h3, ?_⟩
  · rw [h1]
    have e : pieces (tailS s p) = piecesFrom (tailS s p) (tailS s p).size 0 := rfl
    rw [e, Cb.pf_fuel (tailS s p) (tailS s p).size 0 f (by omega) (by rw [tail_size]; omega), from_tail s p h3 f 0, Nat.add_zero]
  · rw [h1]
    have gen : ∀ f a, ∀ x ∈ piecesFrom s f a, ∃ q k : Nat, x.2.1 = (q : Int) ∧ a ≤ q ∧ x.2.2.1 = (k : Int) ∧ q + k ≤ s.size := by
      intro f
      induction f with
      | zero => intro a x hx; rw [piecesFrom] at hx; simp at hx
      | succ f ih =>
        intro a x hx
        by_cases h : a < s.size
        · rw [Pc.piecesFrom, if_pos h] at hx
          rcases List.mem_cons.1 hx with rfl | hx
          · have := Wd.pcF_end s a
            exact ⟨a, _, this.1, Nat.le_refl _, this.2, (width_le s a h).2.2⟩
          · obtain ⟨q, k, e1, e2, e3, e4⟩ := ih _ x hx
            exact ⟨q, k, e1, by omega, e3, e4⟩
        · rw [piecesFrom_end _ _ _ h] at hx; simp at hx
    exact gen f p
theorem own_tail {s : ByteArray} {p q k : Nat} {x : P4} (hp : p ≤ s.size) (h1 : x.2.1 = (q : Int)) (h2 : p ≤ q) (h3 : x.2.2.1 = (k : Int)) (h4 : q + k ≤ s.size) : ownB (tailS s p) (sh p x) = ownB s x := by
  unfold Qt.ownB sh tailS
  simp only
  rw [h1, h3, ByteArray.extract_extract]
  congr 1
  · omega
  · omega
theorem esc_tail {s : ByteArray} {p q : Nat} (hp : p ≤ s.size) (h2 : p ≤ q) : escAt (tailS s p) ((q : Int) - (p : Int)) = escAt s (q : Int) := by
  unfold Uq.escAt
  rw [show ((q : Int) - (p : Int)).toNat = q - p by omega, show ((q : Int)).toNat = q by omega, Ur.ext_drop, Ur.ext_drop]
  congr 1
  unfold tailS
  rw [Ur.ext_drop, List.drop_drop, show p + (q - p) = q by omega]
/-- what is read, counted from p on -/
def shR (p : Nat) (R : List UInt8 × Int × Int) : List UInt8 × Int × Int := (R.1, R.2.1 - (p : Int), R.2.2)
theorem rq_tail {s : ByteArray} {p : Nat} (hp : p ≤ s.size) : ∀ (l : List P4), (∀ x ∈ l, ∃ q k : Nat, x.2.1 = (q : Int) ∧ p ≤ q ∧ x.2.2.1 = (k : Int) ∧ q + k ≤ s.size) → ∀ (nx : Int) (acc : List UInt8), rqG (tailS s p) (l.map (sh p)) (nx - (p : Int)) acc = shR p (rqG s l nx acc) := by
  intro l
  induction l with
  | nil =>
    intro _ nx acc
    rw [List.map_nil, Uq.rqG, Uq.rqG, tail_size]
    simp only [shR, Prod.mk.injEq, true_and, and_true]
    omega
  | cons x t ih =>
    intro h nx acc
    have iht := ih (fun y hy => h y (by simp [hy]))
    obtain ⟨q, k, e1, e2, e3, e4⟩ := h x (by simp)
    have ho := own_tail (x := x) hp e1 e2 e3 e4
    have he := esc_tail (s := s) hp e2
    have hs1 : (sh p x).1 = x.1 := rfl
    have hs2 : (sh p x).2.1 = (q : Int) - (p : Int) := by show x.2.1 - (p : Int) = _; rw [e1]
    have hs3 : (sh p x).2.2.2 = x.2.2.2 := rfl
    rw [List.map_cons, Uq.rqG, Uq.rqG, ho, hs1, hs2, hs3, e1, he]
    generalize escAt s (q : Int) = E at *
    generalize ownB s x = O at *
    by_cases c1 : (q : Int) < nx
    · rw [if_pos c1, if_pos (by omega)]; exact iht nx acc
    rw [if_neg c1, if_neg (by omega)]
    by_cases c2 : x.2.2.2 = true
    · rw [if_pos c2, if_pos c2]; rfl
    rw [if_neg c2, if_neg c2]
    by_cases c3 : x.1 = 34
    · rw [if_pos c3, if_pos c3]
      simp only [shR, Prod.mk.injEq, true_and, and_true]; omega
    rw [if_neg c3, if_neg c3]
    by_cases c4 : x.1 = 92
    · rw [if_pos c4, if_pos c4]
      by_cases c5 : E.2 = 0
      · rw [if_pos c5, if_pos c5]; rfl
      · rw [if_neg c5, if_neg c5]
        rw [show (q : Int) - (p : Int) + (E.2 : Int) = (q : Int) + (E.2 : Int) - (p : Int) by omega]
        exact iht _ _
    rw [if_neg c4, if_neg c4]
    by_cases c6 : Enc.plainF x.1 = true
    · rw [if_pos c6, if_pos c6]; exact iht _ _
    · rw [if_neg c6, if_neg c6]; rfl
theorem bare_tail {s : ByteArray} {p : Nat} (hp : p ≤ s.size) : ∀ (l : List P4), (∀ x ∈ l, ∃ q k : Nat, x.2.1 = (q : Int) ∧ p ≤ q ∧ x.2.2.1 = (k : Int) ∧ q + k ≤ s.size) → (bareG (tailS s p) (l.map (sh p))).2 = ((bareG s l).2.1 - (p : Int), (bareG s l).2.2) := by
  intro l
  induction l with
  | nil =>
    intro _
    rw [List.map_nil, Bw.bareG, Bw.bareG, tail_size]
    simp only [Prod.mk.injEq, and_true]
    omega
  | cons x t ih =>
    intro h
    have iht := ih (fun y hy => h y (by simp [hy]))
    obtain ⟨q, k, e1, e2, e3, e4⟩ := h x (by simp)
    have hs1 : (sh p x).1 = x.1 := rfl
    have hs2 : (sh p x).2.1 = (q : Int) - (p : Int) := by show x.2.1 - (p : Int) = _; rw [e1]
    have hs3 : (sh p x).2.2.2 = x.2.2.2 := rfl
    rw [List.map_cons, Bw.bareG, Bw.bareG, hs1, hs2, hs3, e1, show ((q : Int) - (p : Int)).toNat = q - p by omega, get_tail s p _ hp, show p + (q - p) = q by omega, show ((q : Int)).toNat = q by omega]
    split
    · rfl
    · split
      · exact iht
      · rfl

/-- a quoted word, by the pieces behind its quotation mark -/
theorem rd_quoted {s : ByteArray} {i p : Nat} (h : Bg s i p) (h34 : s.get! p = 34) (hb : Bg s (i + 1) (p + 1)) (hp : p < s.size) : rdF s p = shR p (rqG s ((pieces s).drop (i + 1)) ((p : Int) + 1) []) := by
  obtain ⟨e1, e2, e3⟩ := pieces_tail h
  have hr := rq_tail e2 _ e3 ((p : Int) + 1) []
  unfold rdF
  rw [if_pos h34, e1]
  rw [show (p : Int) + 1 - (p : Int) = 1 by omega] at hr
  rw [hr]
  congr 1
  have := Ur.rq_skip (s := s) (k := i) (pos := p) (n := 1) (fun m hm => by
    obtain rfl : m = 0 := by omega
    exact ⟨hp, h⟩) [] 1 0 rfl
  exact this
/-- a bare word, by the pieces from it on -/
theorem rd_bare {s : ByteArray} {i p : Nat} (h : Bg s i p) (h34 : s.get! p ≠ 34) : (rdF s p).2 = ((bareG s ((pieces s).drop i)).2.1 - (p : Int), (bareG s ((pieces s).drop i)).2.2) := by
  obtain ⟨e1, e2, e3⟩ := pieces_tail h
  unfold rdF
  rw [if_neg h34, e1]
  exact bare_tail e2 _ e3

theorem rw_quoted {s : ByteArray} {i p : Nat} (h : Bg s i p) (h34 : s.get! p = 34) (hb : Bg s (i + 1) (p + 1)) (hp : p < s.size) (R : List UInt8 × Int × Int) (hR : rqG s ((pieces s).drop (i + 1)) ((p : Int) + 1) [] = R) :
    (R.2.2 ≠ 0 → (rwF s p).2.2 = R.2.2 ∧ ((rwF s p).2.1 : Int) = R.2.1) ∧ (∀ q : Nat, R.2.2 = 0 → R.2.1 = (q : Int) → q < s.size → blB ((s.get! q).toNat : Int) = false → (rwF s p).2.2 = 11 ∧ (rwF s p).2.1 = q) ∧ (∀ q : Nat, R.2.2 = 0 → R.2.1 = (q : Int) → ¬ (q < s.size ∧ blB ((s.get! q).toNat : Int) = false) → rwF s p = ((⟨R.1.toArray⟩, true, (p : Int)), q, 0)) := by
  have hrd := rd_quoted h h34 hb hp
  rw [hR] at hrd
  have hpl := rd_place s p
  rw [hrd] at hpl
  have hpl0 : 0 ≤ R.2.1 - (p : Int) := hpl.1
  refine ⟨fun he => ?_, fun q he hq h1 h2 => ?_, fun q he hq h1 => ?_⟩
  · unfold rwF
    rw [hrd]
    have he' : (shR p R).2.2 ≠ 0 := he
    rw [if_pos he']
    refine ⟨rfl, ?_⟩
    show ((p + (R.2.1 - (p : Int)).toNat : Nat) : Int) = R.2.1
    omega
  · have hn : p + (R.2.1 - (p : Int)).toNat = q := by omega
    have he' : ¬ (shR p R).2.2 ≠ 0 := by simpa [shR] using he
    have hn' : p + (shR p R).2.1.toNat = q := hn
    unfold rwF
    rw [hrd, if_neg he', hn', if_pos ⟨h34, h1, h2⟩]
    exact ⟨rfl, rfl⟩
  · have hn : p + (R.2.1 - (p : Int)).toNat = q := by omega
    have he' : ¬ (shR p R).2.2 ≠ 0 := by simpa [shR] using he
    have hn' : p + (shR p R).2.1.toNat = q := hn
    unfold rwF
    rw [hrd, if_neg he', hn', if_neg (fun hh => h1 hh.2)]
    simp [h34, shR]
theorem rw_bare {s : ByteArray} {i p : Nat} (h : Bg s i p) (h34 : s.get! p ≠ 34) (R : List UInt8 × Int × Int) (hR : bareG s ((pieces s).drop i) = R) :
    (R.2.2 ≠ 0 → (rwF s p).2.2 = R.2.2 ∧ ((rwF s p).2.1 : Int) = R.2.1) ∧ (∀ q : Nat, R.2.2 = 0 → R.2.1 = (q : Int) → p ≤ q ∧ rwF s p = ((s.extract p q, false, (p : Int)), q, 0)) := by
  have hrd := rd_bare h h34
  rw [hR] at hrd
  have hpl := rd_place s p
  have hps : p ≤ s.size := (pieces_tail h).2.1
  have e1 : (rdF s p).2.1 = R.2.1 - (p : Int) := by rw [hrd]
  have e2 : (rdF s p).2.2 = R.2.2 := by rw [hrd]
  refine ⟨fun he => ?_, fun q he hq => ?_⟩
  · unfold rwF
    rw [if_pos (by rw [e2]; exact he), e1, e2]
    refine ⟨rfl, ?_⟩
    show ((p + (R.2.1 - (p : Int)).toNat : Nat) : Int) = R.2.1
    omega
  · have hpq : p ≤ q := by omega
    refine ⟨hpq, ?_⟩
    have htx : (rdF s p).1 = (s.extract p q).data.toList := by
      have hrd2 : rdF s p = bareG (tailS s p) (pieces (tailS s p)) := by unfold rdF; rw [if_neg h34]
      have h0 : (bareG (tailS s p) (pieces (tailS s p))).2.2 = 0 := by rw [← hrd2, e2, he]
      have := bare_text _ _ h0
      rw [← hrd2, e1, hq] at this
      rw [this]
      congr 2
      unfold tailS
      rw [show ((q : Int) - (p : Int)).toNat = q - p by omega, ByteArray.extract_extract]
      congr 1
      omega
    have hn : p + (rdF s p).2.1.toNat = q := by rw [e1]; omega
    unfold rwF
    rw [if_neg (by rw [e2]; simpa using he), hn, if_neg (fun hh => h34 hh.1), htx, Uq.ba]
    simp [h34]

/-- a piece's rune against the byte at its place -/
theorem at_byte {s : ByteArray} {i p : Nat} (h : Bg s i p) (hp : p < s.size) (n : Nat) (hn : n < 128) : atL (pieces s) i = (n : Int) ↔ (s.get! p).toNat = n := by
  rcases at_bg h with ⟨_, _, e, _⟩ | ⟨e, h2⟩
  · rw [e]; omega
  · constructor
    · intro h3; omega
    · intro h3; omega
theorem at_next {s : ByteArray} {i p n : Nat} (h : Bg s i p) (hn : n < 128) (e : atL (pieces s) i = (n : Int)) : Bg s (i + 1) (p + 1) := by
  rcases at_bg h with ⟨_, _, _, h4⟩ | ⟨h1, _⟩
  · exact h4
  · omega
end Go.Proofs.YtckjededijgjgaaDoor.Wo
namespace Go.Proofs.YtckjededijgjgaaDoor.Wo
open Go.RowKit
open Go.Proofs.YtckjededijgjgaaDoor.Pc (P4 pieces)
open Go.Proofs.YtckjededijgjgaaDoor.Bw (blB bareG blank_any bareEnd_any BR bl_at)
open Go.Proofs.YtckjededijgjgaaDoor.Uq (rqG)
open Go.Proofs.YtckjededijgjgaaDoor.Jn (W3 cells3 cellsW cellsW_snoc new3 one3 info41 own3_grown ws_of)
open Go.Proofs.YtckjededijgjgaaDoor.Wd (Bg bg_step bg_end bg_zero)
open Go.Proofs.YtckjededijgjgaaDoor.Ur (Lp lp_of atL at_any quoted_any QR)
set_option linter.unusedVariables false

set_option maxHeartbeats 800000 in
theorem placeOf_any (s : ByteArray) (hs : s.size ≤ 4096) {w : World} {ad : Option Addr} (cap : Nat) (hL : Lp w ad (pieces s)) (K q : Nat) (hb : Bg s K q) :
    Calls Tryd.prog 81 #[.string s, .slice ad (pieces s).length cap, .int .i64 (K : Int)] w fun e w' => e = .returned (.int .i64 (q : Int)) ∧ w' = w := by
  by_cases hk : K < (pieces s).length
  · obtain ⟨hp, hpc, _, _⟩ := bg_step hb hk
    obtain ⟨g, rfl, hg, c0, c1, c2, c3⟩ := hL K hk
    rw [hpc, (Wd.pcF_end s q).1] at c1
    have hkI : (K : Int) < ((pieces s).length : Int) := by omega
    clear c0 c2 c3 hL hpc
    generalize (pieces s).length = N at *
    go_enter Tryd.func81, Tryd.ntmps81
    go_wp2
    go_ret
    exact ⟨rfl, rfl⟩
  · have hq := bg_end hb (by omega)
    have hkI : ¬ (K : Int) < ((pieces s).length : Int) := by omega
    subst hq
    clear hL
    generalize (pieces s).length = N at *
    go_enter Tryd.func81, Tryd.ntmps81
    go_wp2
    go_ret
    exact ⟨rfl, rfl⟩

/-- an append whose run is known, in a region that draws -/
theorem step_append_row {P : Program} {ops : Array Oper} {o : Oper} {a : Act} {w : World} {K : Act → World → Prop} {Q : Exit → Act → World → Prop} {E : Prop}
    (hg : o.guard = none) (s x : Operand) (t u : TypeId) (hop : o.op = Op.call { callee := Callee.builtin Builtin.append, args := #[s, x], argTypes := #[t, u] })
    (v y : Value) (hs : a.eval s = v) (hx : a.eval x = y) (v' : Value) (w' : World) (hrun : (Builtin.append_ #[t, u] o.type #[v, y]).run P w = .ok v' w')
    (hK : K (a.put o.dst v') w') : if Region.wanted o (yielded ops a.tmps) = true then Oper.wp P o a w K Q else E := by
  have hw : Region.wanted o (yielded ops a.tmps) = true := by simp [Region.wanted, hg]
  rw [if_pos hw]
  unfold Oper.wp execOp
  simp only [hop, resolve, invoke, builtin, Sem.run_bind, Sem.run_pure, Result.andThen_ok, List.map_toArray, List.map_cons, List.map_nil, hs, hx, hrun]
  exact hK

theorem meas_lt {v v' : Value} {N a b : Nat} (h : slen v' = slen v + 1) (h2 : slen v ≤ 64) : (65 - slen v') * (N + 1) + (N - a) < (65 - slen v) * (N + 1) + (N - b) := by
  rw [h, show 65 - slen v = (65 - (slen v + 1)) + 1 by omega, Nat.add_mul]
  omega
/-- what the document's Words answers, in memory -/
def WR (w : World) (R : List W3 × Int × Int) (e : Ending) (w' : World) : Prop :=
  ∃ v, e = .returned (.tuple #[v, .int .i64 R.2.1, .int .i64 R.2.2]) ∧ w'.ownsRow w.heap.size 41 3 v R.1.length (cellsW R.1) ∧ Below w.heap.size w w'
theorem WR.none {w w' : World} {a e : Int} (hb : Below w.heap.size w w') : WR w ([], a, e) (.returned (.tuple #[.slice none 0 0, .int .i64 a, .int .i64 e])) w' :=
  ⟨_, rfl, World.ownsRow_nil _ _ _ _, hb⟩
theorem own_drewN {w : World} {base n : Nat} {v : Value} {l : List Value} {t : TypeId} (h : w.ownsRow base t 3 v n l) : w.drew.ownsRow base t 3 v n l := h

theorem own_base {w : World} {base base' n : Nat} {v : Value} {l : List Value} {t : TypeId} (h : w.ownsRow base t 3 v n l) (hb : base' ≤ base) : w.ownsRow base' t 3 v n l := by
  obtain ⟨hl, ho⟩ := h
  refine ⟨hl, ?_⟩
  rcases ho with ho | ⟨g, cap, cur, e1, e2, e3⟩
  · exact .inl ho
  · exact .inr ⟨g, cap, cur, e1, Nat.le_trans hb e2, e3⟩
/-- the step of the document's loop, in the words of Words' own -/
theorem wrd_end {s : ByteArray} {f q : Nat} {acc : List W3} (hq : ¬ q < s.size) (hf : f ≠ 0) : wrdG s f (skp s q) acc = (acc, 0, 0) := by
  obtain ⟨f, rfl⟩ : ∃ g, f = g + 1 := ⟨f - 1, by omega⟩
  rw [skp_stop (fun h => hq h.1), wrdG, if_neg (fun h => hq h.1)]

set_option maxRecDepth 100000 in
set_option maxHeartbeats 8000000 in
theorem refWords_any (s : ByteArray) (w : World) :
    Calls Tryd.prog 40 #[.string s] w fun e w' => WR w (wordsG s) e w' := by
  obtain ⟨i0, hi0, hz0, hz1, hz2⟩ := info_parts info41
  unfold wordsG
  by_cases hbig : 4096 < s.size
  · rw [if_pos hbig]
    have hbI : (4096 : Int) < (s.size : Int) := by omega
    clear hbig
    go_enter Tryd.func40, Tryd.ntmps40
    go_wp2
    go_ret3
    exact WR.none (Below.refl _ _)
  rw [if_neg hbig]
  have hs : s.size ≤ 4096 := by omega
  have hsI2 : ¬ (4096 : Int) < (s.size : Int) := by omega
  have RP := Rp.refPieces_big s (by omega) w
  have hpl := Wd.pieces_len s
  have hl : (pieces s).length ≤ 11000000 := by omega
  clear hbig
  obtain ⟨A, hA⟩ : ∃ A, wrdG s 65 (skp s 0) [] = A := ⟨_, rfl⟩
  have HA := hide hA
  rw [hA]
  clear hA
  go_enter Tryd.func40, Tryd.ntmps40
  go_wp2_with fail
  refine RP.mono ?_; rintro e w1 ⟨v, rfl, hrow, hb1⟩
  obtain ⟨ad, cap, rfl, hL⟩ := lp_of hrow
  have HBL := hide (fun (k : Nat) (W : World) (hb : Below w1.heap.size w1 W) => blank_any cap (hL.below hb) hl k)
  have HAT := hide (fun (k : Nat) (W : World) (hb : Below w1.heap.size w1 W) => at_any cap (hL.below hb) hl k)
  have HQD := hide (fun (i p : Nat) (W : World) (hB : Below w1.heap.size w1 W) (hb : Bg s (i + 1) p) (hi : i ≤ (pieces s).length) => quoted_any s (by omega) cap (hL.below hB) i p hb hi (p : Int) (Int.le_refl _))
  have HBE := hide (fun (i p : Nat) (W : World) (hB : Below w1.heap.size w1 W) (hb : Bg s i p) (hi : i ≤ (pieces s).length) => bareEnd_any s (by omega) cap (hL.below hB) i p hb hi)
  have HPO := hide (fun (K q : Nat) (W : World) (hB : Below w1.heap.size w1 W) (hb : Bg s K q) => placeOf_any s hs cap (hL.below hB) K q hb)
  have HCL : Hid (∀ k (hk : k < (pieces s).length) q, Bg s k q → ∃ g, ad = some ⟨g, 0, none⟩ ∧ ∀ W, Below w1.heap.size w1 W → W.cell? ⟨g, k * 4 + 1, none⟩ = some (.int .i64 (q : Int))) := by
    intro k hk q hb
    obtain ⟨g, h0, hg, c0, c1, c2, c3⟩ := hL k hk
    rw [(bg_step hb hk).2.1, (Wd.pcF_end s q).1] at c1
    exact ⟨g, h0, fun W hB => (hB.cell (p := ⟨g, k * 4 + 1, none⟩) hg).trans c1⟩
  have HA0 : Hid (Bg s 0 0) := bg_zero s
  clear RP hrow hL
  obtain ⟨N, hN⟩ : ∃ N, (pieces s).length = N := ⟨_, rfl⟩
  have HN := hide hN
  rw [hN] at HBL HAT HQD HBE HPO hpl hl ⊢
  clear hN
  have hNI : (N : Int) ≤ 4096 := by omega
  have hb1s := hb1.size
  go_wp2_with fail
  go_loopw [6, 7] (fun v kv wr => ∃ (i p f : Nat) (acc : List W3), kv = .int .i64 (i : Int) ∧ acc.length ≤ 64 ∧ Hid (f + acc.length = 65) ∧ wr.ownsRow w1.heap.size 41 3 v acc.length (cellsW acc) ∧ Below w1.heap.size w1 wr ∧ Hid (Bg s i p) ∧ Hid (wrdG s f (skp s p) acc = A)) (fun v kv _ => (65 - slen v) * (N + 1) + (N - (intOf kv).toNat))
  case atStart => exact ⟨0, 0, 65, [], rfl, by simp, by show _ = _; simp, World.ownsRow_nil _ _ _ _, Below.refl _ _, HA0, HA⟩
  case round =>
    obtain ⟨i, p, f, acc, rfl, hal, HF, hrow, hB, HBG, HI⟩ := hrel
    clear HA HA0
    have hBs := hB.size
    have hBw := hb1.trans (hB.mono hb1.size)
    obtain ⟨adw, cpw, hv, _⟩ := ws_of hrow
    subst hv
    by_cases hlt : i < N
    · have hil : i < (pieces s).length := by rw [HN.out]; exact hlt
      have hltI : (i : Int) < (N : Int) := by omega
      have hps := (bg_step HBG.out hil).1
      have BL := HBL.out i wr hB
      by_cases hbl : blB (atL (pieces s) i) = true
      · have hblb : blB ((s.get! p).toNat : Int) = true := by rw [← bl_at HBG.out hps]; exact hbl
        have HI2 : Hid (wrdG s f (skp s (p + 1)) acc = A) := by
          show _ = _
          rw [← skp_step hps hblb]
          exact HI.out
        have HB2 : Hid (Bg s (i + 1) (p + 1)) := by
          unfold Bw.blB at hbl
          have h2 : atL (pieces s) i = 32 ∨ atL (pieces s) i = 9 := by simpa using hbl
          rcases h2 with h2 | h2
          · exact at_next (n := 32) HBG.out (by omega) h2
          · exact at_next (n := 9) HBG.out (by omega) h2
        rw [hbl] at BL
        clear HI HBG HBL HAT HQD HBE HPO HCL hbl hblb
        go_wp2_with fail
        refine BL.mono ?_; rintro e w2 ⟨rfl, hw⟩; obtain rfl := hw.symm
        go_wp2
        exact ⟨⟨i + 1, p + 1, f, acc, by go_num, hal, HF, hrow, hB, HB2, HI2⟩, by simp only [slen, intOf]; omega⟩
      · have hblf : blB (atL (pieces s) i) = false := by simpa using hbl
        have hblb : blB ((s.get! p).toNat : Int) = false := by rw [← bl_at HBG.out hps]; exact hblf
        have HI1 : Hid (wrdG s f p acc = A) := by
          have := HI.out
          rw [skp_stop (fun h => by rw [hblb] at h; exact absurd h.2 (by simp))] at this
          exact this
        have AT := HAT.out i wr hB
        have h35 := at_byte HBG.out hps 35 (by omega)
        have h34 := at_byte HBG.out hps 34 (by omega)
        have b35 : s.get! p = 35 ↔ (s.get! p).toNat = 35 := ⟨fun e => by rw [e]; rfl, fun e => UInt8.toNat_inj.1 (by simpa using e)⟩
        have b34 : s.get! p = 34 ↔ (s.get! p).toNat = 34 := ⟨fun e => by rw [e]; rfl, fun e => UInt8.toNat_inj.1 (by simpa using e)⟩
        rw [hblf] at BL
        obtain ⟨f, rfl⟩ : ∃ g, f = g + 1 := ⟨f - 1, by have := HF.out; omega⟩
        by_cases c35 : atL (pieces s) i = 35
        · have HE : Hid (A = (acc, 0, 0)) := by
            show _ = _
            rw [← HI1.out, wrdG, if_neg (fun h => h.2 (b35.2 (h35.1 c35)))]
          rw [c35] at AT
          clear HI HI1 HBG HBL HAT HQD HBE HPO HCL hbl hblb hblf h35 h34 b35 b34 c35
          go_wp2_with fail
          refine BL.mono ?_; rintro e w2 ⟨rfl, hw⟩; obtain rfl := hw.symm
          go_wp2_with fail
          refine AT.mono ?_; rintro e w2 ⟨rfl, hw⟩; obtain rfl := hw.symm
          go_wp2
          go_ret3
          rw [HE.out]
          exact ⟨_, rfl, own_base hrow hb1s, hBw⟩
        · have bc35 : (atL (pieces s) i == 35) = false := beq_eq_false_iff_ne.2 c35
          have HI2 : Hid (A = if acc.length = 64 then ([], (p : Int), 18) else if (rwF s p).2.2 ≠ 0 then ([], ((rwF s p).2.1 : Int), (rwF s p).2.2) else wrdG s f (skp s (rwF s p).2.1) (acc ++ [(rwF s p).1])) := by
            show _ = _
            rw [← HI1.out, wrdG, if_pos ⟨hps, fun e => c35 (h35.2 (b35.1 e))⟩]
          obtain ⟨g, rfl, hcl⟩ := HCL.out i hil p HBG.out
          have c1 := hcl wr hB
          have HKP := hide hcl
          by_cases h64 : acc.length = 64
          · have b64 : ((acc.length : Int) == 64) = true := by rw [h64]; rfl
            have HE : Hid (A = ([], (p : Int), 18)) := by show _ = _; rw [HI2.out, if_pos h64]
            clear HI HI1 HI2 HBG HBL HAT HQD HBE HPO HCL hbl hblb hblf h35 h34 b35 b34 c35 h64 hal hcl HKP
            generalize acc.length = M at *
            generalize atL (pieces s) i = c at *
            go_wp2_with fail
            refine BL.mono ?_; rintro e w2 ⟨rfl, hw⟩; obtain rfl := hw.symm
            go_wp2_with fail
            refine AT.mono ?_; rintro e w2 ⟨rfl, hw⟩; obtain rfl := hw.symm
            go_wp2
            go_region
            all_goals go_wp2
            all_goals refine bodyPost_ret (v := .tuple #[.slice none 0 0, .int .i64 (p : Int), .int .i64 18]) (by simp [results, Tryd.results40, go_sem]) rfl ?_
            all_goals rw [HE.out]
            all_goals exact WR.none hBw.drew
          have b64 : ((acc.length : Int) == 64) = false := by rw [beq_eq_false_iff_ne]; omega
          have HI3 : Hid (A = if (rwF s p).2.2 ≠ 0 then ([], ((rwF s p).2.1 : Int), (rwF s p).2.2) else wrdG s f (skp s (rwF s p).2.1) (acc ++ [(rwF s p).1])) := by
            show _ = _
            rw [HI2.out, if_neg h64]
          have hal2 : acc.length + 1 ≤ 64 := by omega
          have HLN : Hid (∀ x : W3, (acc ++ [x]).length = acc.length + 1) := fun x => by simp
          have HCW := hide (cellsW_snoc acc)
          clear HI HI1 HI2 h64 hbl hblb hblf h35 b35 c35
          by_cases c34 : atL (pieces s) i = 34
          · have hq34 : s.get! p = 34 := b34.2 (h34.1 c34)
            have hbn := at_next (n := 34) HBG.out (by omega) c34
            have QD := HQD.out i (p + 1) wr hB hbn (by omega)
            obtain ⟨r1, r2, r3⟩ := rw_quoted HBG.out hq34 hbn hps _ rfl
            rw [show ((p + 1 : Nat) : Int) = (p : Int) + 1 from rfl] at QD
            generalize rqG s ((pieces s).drop (i + 1)) ((p : Int) + 1) [] = RR at *
            obtain ⟨tx, rp, er⟩ := RR
            simp only at r1 r2 r3
            rw [c34] at AT bc35
            clear HQD HBE HPO HAT h34 b34 c34 hq34 hbn
            go_wp2_with fail
            refine BL.mono ?_; rintro e w2 ⟨rfl, hw⟩; obtain rfl := hw.symm
            go_wp2_with fail
            refine AT.mono ?_; rintro e w2 ⟨rfl, hw⟩; obtain rfl := hw.symm
            go_wp2_with fail
            refine QD.mono ?_; rintro e w2 ⟨hqr, hb2⟩
            have hB2 := hB.trans (hb2.mono hB.size)
            have hBs2 := hB2.size
            have hBw2 := hb1.trans (hB2.mono hb1.size)
            have hrow2 := own40_below hrow hb2
            have d1 := HKP.out w2 hB2
            clear QD AT BL
            rcases hqr with ⟨h0, K, q, hq, hBK, rfl⟩ | ⟨h0, rfl⟩
            · have er0 : er = 0 := h0
              have rq : rp = (q : Int) := hq
              subst er0 rq
              have BL2 := HBL.out K w2 hB2
              clear r1 h0 hq
              by_cases hKN : K < N
              · have hKl : K < (pieces s).length := by rw [HN.out]; exact hKN
                have hqs := (bg_step hBK hKl).1
                have hKI : (K : Int) < (N : Int) := by omega
                have hbe := bl_at hBK hqs
                cases hb2 : blB (atL (pieces s) K)
                · rw [hb2] at BL2
                  obtain ⟨e1, e2⟩ := r2 q rfl rfl hqs (by rw [← hbe]; exact hb2)
                  have HE : Hid (A = ([], (q : Int), 11)) := by
                    show _ = _
                    rw [HI3.out, if_pos (by rw [e1]; decide), e1, e2]
                  obtain ⟨g', hg', hcl'⟩ := HCL.out K hKl q hBK
                  cases hg'
                  have d2 := hcl' w2 hB2
                  clear r2 r3 HI3 HCL HBL hcl' hcl hbe hb2 HKP c1 e1 e2
                  generalize acc.length = M at *
                  go_wp2_with fail
                  refine BL2.mono ?_; rintro e w3 ⟨rfl, hw⟩; obtain rfl := hw.symm
                  go_wp2
                  go_region
                  all_goals go_wp2
                  all_goals refine bodyPost_ret (v := .tuple #[.slice none 0 0, .int .i64 (q : Int), .int .i64 11]) (by simp [results, Tryd.results40, go_sem]) rfl ?_
                  all_goals rw [HE.out]
                  all_goals exact WR.none hBw2.drew
                · rw [hb2] at BL2
                  have e3 := r3 q rfl rfl (fun h => by rw [← hbe, hb2] at h; exact absurd h.2 (by simp))
                  rw [e3] at HI3
                  have HI4 : Hid (wrdG s f (skp s q) (acc ++ [(⟨tx.toArray⟩, true, (p : Int))]) = A) := by
                    show _ = _
                    rw [HI3.out, if_neg (by simp)]
                  have HBK := hide hBK
                  clear r2 r3 HI3 HCL HBL hcl c1 e3 hBK HKP hbe hb2
                  generalize (⟨tx.toArray⟩ : ByteArray) = XX at *
                  have h1 := HLN.out (XX, true, (p : Int))
                  have HCX := hide (HCW.out (XX, true, (p : Int)))
                  have HLX := hide h1
                  have HAL := hide hal2
                  clear h1 HLN HCW hal hal2
                  generalize hA2 : acc ++ [(XX, true, (p : Int))] = acc2 at *
                  generalize hM : acc.length = M at *
                  go_wp2_with fail
                  refine BL2.mono ?_; rintro e w3 ⟨rfl, hw⟩; obtain rfl := hw.symm
                  clear BL2
                  go_wp2_with (first | (at_builtin; refine wpList_append_own _ rfl _ _ 38 rfl w1.heap.size 41 i0 _ 3 32 Tryd.underlying38 hi0 hz0 hz1 hz2 rfl (by decide) _ _ _ rfl (hrow2.alloc _) ⟨w2.heap.size, 0, none⟩ 1 1 (cells3 (XX, true, (p : Int))) rfl rfl (new3 w2 (XX, true, (p : Int)) 41) (one3 (XX, true, (p : Int))) ?sa1 ?sb1 ?sc1 ?_; rotate_left 3; intro v5 w5 hown5 hgrow5 _))
                  · have hB5 := own3_grown (hrow2.alloc _) (hB2.alloc hB2.size _) (by simp; omega) hgrow5
                    have f1 := HF.out
                    have f2 := HLX.out
                    have f3 := HAL.out
                    obtain ⟨p5, c5, hv5, _⟩ := ws_of (l := acc2) (by rw [f2, HCX.out]; exact hown5)
                    refine ⟨⟨K, q, f, acc2, rfl, by omega, by show _ = _; omega, ?_, hB5, HBK, HI4⟩, ?_⟩
                    · rw [f2, HCX.out]; exact hown5
                    · exact meas_lt (by rw [hv5]; simp only [slen]; omega) (by simp only [slen]; omega)
                  case sa1 => unfold maxLen; have := HAL.out; omega
                  case sb1 => have := HAL.out; omega
                  case sc1 => simp; omega
              · have hKI : ¬ (K : Int) < (N : Int) := by omega
                have hqs : q = s.size := bg_end hBK (by rw [HN.out]; omega)
                have e3 := r3 q rfl rfl (fun h => by omega)
                generalize blB (atL (pieces s) K) = bK at *
                rw [e3] at HI3
                have HI4 : Hid (wrdG s f (skp s q) (acc ++ [(⟨tx.toArray⟩, true, (p : Int))]) = A) := by
                  show _ = _
                  rw [HI3.out, if_neg (by simp)]
                have HBK := hide hBK
                clear r2 r3 HI3 HCL HBL hcl c1 e3 hBK HKP
                generalize (⟨tx.toArray⟩ : ByteArray) = XX at *
                have h1 := HLN.out (XX, true, (p : Int))
                have HCX := hide (HCW.out (XX, true, (p : Int)))
                have HLX := hide h1
                have HAL := hide hal2
                clear h1 HLN HCW hal hal2
                generalize hA2 : acc ++ [(XX, true, (p : Int))] = acc2 at *
                generalize hM : acc.length = M at *
                go_wp2_with fail
                refine BL2.mono ?_; rintro e w3 ⟨rfl, hw⟩; obtain rfl := hw.symm
                clear BL2
                go_wp2_with (first | (at_builtin; refine wpList_append_own _ rfl _ _ 38 rfl w1.heap.size 41 i0 _ 3 32 Tryd.underlying38 hi0 hz0 hz1 hz2 rfl (by decide) _ _ _ rfl (hrow2.alloc _) ⟨w2.heap.size, 0, none⟩ 1 1 (cells3 (XX, true, (p : Int))) rfl rfl (new3 w2 (XX, true, (p : Int)) 41) (one3 (XX, true, (p : Int))) ?sa2 ?sb2 ?sc2 ?_; rotate_left 3; intro v5 w5 hown5 hgrow5 _))
                · have hB5 := own3_grown (hrow2.alloc _) (hB2.alloc hB2.size _) (by simp; omega) hgrow5
                  have f1 := HF.out
                  have f2 := HLX.out
                  have f3 := HAL.out
                  obtain ⟨p5, c5, hv5, _⟩ := ws_of (l := acc2) (by rw [f2, HCX.out]; exact hown5)
                  refine ⟨⟨K, q, f, acc2, rfl, by omega, by show _ = _; omega, ?_, hB5, HBK, HI4⟩, ?_⟩
                  · rw [f2, HCX.out]; exact hown5
                  · exact meas_lt (by rw [hv5]; simp only [slen]; omega) (by simp only [slen]; omega)
                case sa2 => unfold maxLen; have := HAL.out; omega
                case sb2 => have := HAL.out; omega
                case sc2 => simp; omega
            · have er0 : er ≠ 0 := h0
              have be : (er != 0) = true := by rw [bne_iff_ne]; exact er0
              obtain ⟨e1, e2⟩ := r1 er0
              have HE : Hid (A = ([], rp, er)) := by
                show _ = _
                rw [HI3.out, if_pos (by rw [e1]; exact er0), e1, e2]
              clear r1 r2 r3 HI3 HCL HBL hcl HKP c1 e1 e2 h0 er0
              generalize acc.length = M at *
              go_wp2
              go_ret3
              rw [HE.out]
              exact WR.none hBw2
          · have bc34 : (atL (pieces s) i == 34) = false := beq_eq_false_iff_ne.2 c34
            have hq34 : s.get! p ≠ 34 := fun e => c34 (h34.2 (b34.1 e))
            have BE := HBE.out i p wr hB HBG.out (by omega)
            obtain ⟨r1, r2⟩ := rw_bare HBG.out hq34 _ rfl
            generalize bareG s ((pieces s).drop i) = RR at *
            obtain ⟨tx, rp, er⟩ := RR
            simp only at r1 r2
            clear HQD HBE HAT h34 b34 c34 hq34
            generalize atL (pieces s) i = c at *
            go_wp2_with fail
            refine BL.mono ?_; rintro e w2 ⟨rfl, hw⟩; obtain rfl := hw.symm
            go_wp2_with fail
            refine AT.mono ?_; rintro e w2 ⟨rfl, hw⟩; obtain rfl := hw.symm
            go_wp2_with fail
            refine BE.mono ?_; rintro e w2 ⟨hbr, hb2⟩
            have hB2 := hB.trans (hb2.mono hB.size)
            have hBs2 := hB2.size
            have hBw2 := hb1.trans (hB2.mono hb1.size)
            have hrow2 := own40_below hrow hb2
            have d1 := HKP.out w2 hB2
            clear BE AT BL
            rcases hbr with ⟨h0, K, q, hKle, hq, hBK, rfl⟩ | ⟨h0, rfl⟩
            · have er0 : er = 0 := h0
              have rq : rp = (q : Int) := hq
              subst er0 rq
              obtain ⟨hpq, e3⟩ := r2 q rfl rfl
              have PO := HPO.out K q w2 hB2 hBK
              have hqs : q ≤ s.size := by obtain ⟨_, _, _, h⟩ := hBK; exact h
              rw [e3] at HI3
              have HI4 : Hid (wrdG s f (skp s q) (acc ++ [(s.extract p q, false, (p : Int))]) = A) := by
                show _ = _
                rw [HI3.out, if_neg (by simp)]
              have HBK := hide hBK
              have hsl : ∀ W, (Instr.slice 9 (.string s) (some (.int .i64 (p : Int))) (some (.int .i64 (q : Int))) none).run Tryd.prog W = .ok (.string (s.extract p q)) W := fun W => by
                rw [run_slice_string W 9 s .i64 .i64 _ _ Tryd.underlying9 (by omega) (by omega) (by omega), show ((p : Int)).toNat = p from rfl, show ((q : Int)).toNat = q from rfl]
              clear r1 r2 h0 hq HI3 HPO HCL HBL hcl c1 e3 hBK
              generalize s.extract p q = XX at *
              have hrowd : (w2.drew.alloc (.cells #[.string XX, .bool false, .int .i64 (p : Int)] 41)).ownsRow w1.heap.size 41 3 (.slice adw acc.length cpw) acc.length (cellsW acc) := (own_drewN hrow2).alloc _
              have hBd : Below w1.heap.size w1 (w2.drew.alloc (.cells #[.string XX, .bool false, .int .i64 (p : Int)] 41)) := hB2.drew.alloc (by simpa using hBs2) _
              obtain ⟨v5, w5, hrun, hown5, hgrow5, _, _⟩ := run_append_own_at (P := Tryd.prog) _ w1.heap.size 38 38 41 i0 _ 3 32 Tryd.underlying38 hi0 hz0 hz1 hz2 rfl (by decide) _ acc.length (cellsW acc) hrowd ⟨w2.drew.heap.size, 0, none⟩ 1 1 (cells3 (XX, false, (p : Int))) rfl (new3 w2.drew (XX, false, (p : Int)) 41) (one3 (XX, false, (p : Int))) (by unfold maxLen; omega) (by omega) (by simp; omega)
              have hB5 := own3_grown hrowd hBd hBd.size hgrow5
              have k5 := HKP.out w5 hB5
              have k2 := HKP.out _ hBd
              clear hgrow5
              have h1 := HLN.out (XX, false, (p : Int))
              have HCX := hide (HCW.out (XX, false, (p : Int)))
              have HLX := hide h1
              have HAL := hide hal2
              clear h1 HLN HCW hal hal2
              generalize hA2 : acc ++ [(XX, false, (p : Int))] = acc2 at *
              generalize hM : acc.length = M at *
              go_wp2_with fail
              refine PO.mono ?_; rintro e w3 ⟨rfl, hw⟩; obtain rfl := hw.symm
              clear PO
              go_wp2_with fail
              go_region_held_law (fun w' => w'.cell? ⟨g, i * 4 + 1, none⟩ = some (.int .i64 (p : Int))) (first | exact k5 | exact k2 | go_keep) (refine step_append_row rfl (.tmp 103) (.tmp 118) 38 38 rfl _ _ rfl rfl v5 w5 hrun ?_)
              go_wp2
              have f1 := HF.out
              have f2 := HLX.out
              have f3 := HAL.out
              obtain ⟨p5, c5, hv5, _⟩ := ws_of (l := acc2) (by rw [f2, HCX.out]; exact hown5)
              refine ⟨⟨K, q, f, acc2, rfl, by omega, by show _ = _; omega, ?_, hB5, HBK, HI4⟩, ?_⟩
              · rw [f2, HCX.out]; exact hown5
              · exact meas_lt (by rw [hv5]; simp only [slen]; omega) (by simp only [slen]; omega)
            · have er0 : er ≠ 0 := h0
              have be : (er != 0) = true := by rw [bne_iff_ne]; exact er0
              obtain ⟨e1, e2⟩ := r1 er0
              have HE : Hid (A = ([], rp, er)) := by
                show _ = _
                rw [HI3.out, if_pos (by rw [e1]; exact er0), e1, e2]
              clear r1 r2 HI3 HCL HBL HPO hcl HKP c1 e1 e2 h0 er0
              generalize acc.length = M at *
              go_wp2
              go_ret3
              rw [HE.out]
              exact WR.none hBw2
    · have hge : ¬ (i : Int) < (N : Int) := by omega
      have hp := bg_end HBG.out (by rw [HN.out]; omega)
      have HE : Hid (A = (acc, 0, 0)) := by
        show _ = _
        rw [← HI.out, wrd_end (by omega) (by have := HF.out; omega)]
      clear HI HBG HBL HAT HQD HBE HPO HCL
      go_wp2
      go_ret3
      rw [HE.out]
      exact ⟨_, rfl, own_base hrow hb1s, hBw⟩
end Go.Proofs.YtckjededijgjgaaDoor.Wo
namespace Go.Proofs.YtckjededijgjgaaDoor.Wo
open Go.RowKit
open Go.Proofs.YtckjededijgjgaaDoor.Jn (W3 Ws cells3 cellsW ws_of)
set_option linter.unusedVariables false

/-- words of a row as a slice, its block between two bounds -/
structure Rw (w : World) (ad : Option Addr) (l : List W3) (lo hi : Nat) : Prop where
  ws : Ws w ad l
  at_ : ∀ a, ad = some a → lo ≤ a.block ∧ a.block < hi
theorem rw_of {w : World} {base : Nat} {v : Value} {t : TypeId} {l : List W3} (h : w.ownsRow base t 3 v l.length (cellsW l)) : ∃ ad cap, v = .slice ad l.length cap ∧ Rw w ad l base w.heap.size := by
  obtain ⟨ad, cap, hv, hW, _⟩ := ws_of h
  refine ⟨ad, cap, hv, hW, fun a ha => ?_⟩
  subst ha
  rcases h.2 with ⟨e, _⟩ | ⟨g, cp, cur, e, hgb, hg, _⟩
  · rw [hv] at e; cases e
  · rw [hv] at e; cases e
    exact ⟨hgb, (Array.getElem?_eq_some_iff.1 hg).1⟩
theorem Rw.below {w w' : World} {ad : Option Addr} {l : List W3} {lo hi : Nat} (h : Rw w ad l lo hi) (hb : Below w.heap.size w w') : Rw w' ad l lo hi := ⟨h.ws.below hb (Nat.le_refl _), h.at_⟩
theorem Rw.drewN {w : World} {ad : Option Addr} {l : List W3} {lo hi : Nat} (h : Rw w ad l lo hi) (n : Nat) : Rw (w.drewN n) ad l lo hi := h.below (below_drewN (Below.refl _ w) n)
theorem Rw.grown {w w' : World} {ad : Option Addr} {l : List W3} {lo hi : Nat} {o : Option Nat} (h : Rw w ad l lo hi) (hg : w.grownBy w' o) (hne : ∀ k, lo ≤ k → k < hi → some k ≠ o) : Rw w' ad l lo hi := by
  refine ⟨fun k hk => ?_, h.at_⟩
  obtain ⟨g, off, h0, h1, c0, c1, c2⟩ := h.ws k hk
  obtain ⟨a1, a2⟩ := h.at_ _ h0
  have hb := hg.block g h1 (hne g a1 a2)
  exact ⟨g, off, h0, Nat.lt_of_lt_of_le h1 hg.size, (World.cell?_of_block (a := ⟨g, off + k * 3, none⟩) hb).trans c0, (World.cell?_of_block (a := ⟨g, off + k * 3 + 1, none⟩) hb).trans c1, (World.cell?_of_block (a := ⟨g, off + k * 3 + 2, none⟩) hb).trans c2⟩

set_option maxRecDepth 100000 in
set_option maxHeartbeats 2000000 in
theorem sameWords_any (l : List W3) (hl : l.length ≤ 64) (w : World) (ad bd : Option Addr) (ca cb : Nat) (hA : Ws w ad l) (hB : Ws w bd l) :
    Calls Tryd.prog 41 #[.slice ad l.length ca, .slice bd l.length cb] w fun e w' => e = .returned (.bool true) ∧ ∃ n, w' = w.drewN n := by
  have HA := hide hA
  have HB := hide hB
  clear hA hB
  obtain ⟨N, hN⟩ : ∃ N, l.length = N := ⟨_, rfl⟩
  have HN := hide hN
  rw [hN] at hl ⊢
  clear hN
  have hNI : (N : Int) ≤ 64 := by omega
  go_enter Tryd.func41, Tryd.ntmps41
  go_wp2_with fail
  go_loopw [5] (fun kv wr => ∃ (k : Nat), kv = .int .i64 (k : Int) ∧ k ≤ N ∧ ∃ n, wr = w.drewN n) (fun kv _ => N - (intOf kv).toNat)
  case atStart => exact ⟨0, rfl, by omega, 0, rfl⟩
  case round =>
    obtain ⟨k, rfl, hk, n, rfl⟩ := hrel
    by_cases hlt : k < N
    · have hkl : k < l.length := by rw [HN.out]; exact hlt
      obtain ⟨g, o, rfl, hg, c0, c1, c2⟩ := HA.out k hkl
      obtain ⟨g2, o2, rfl, hg2, d0, d1, d2⟩ := HB.out k hkl
      have hltI : (k : Int) < (N : Int) := by omega
      generalize l[k] = x at *
      obtain ⟨tx, qd, pl⟩ := x
      simp only at c0 c1 c2 d0 d1 d2
      have bs : (tx.toList == tx.toList) = true := by simp
      have bq : (qd == qd) = true := by simp
      have bpl : (pl == pl) = true := by simp
      have c0' : (w.drewN n).cell? ⟨g, o + k * 3, none⟩ = some (.string tx) := c0
      have c1' : (w.drewN n).cell? ⟨g, o + k * 3 + 1, none⟩ = some (.bool qd) := c1
      have c2' : (w.drewN n).cell? ⟨g, o + k * 3 + 2, none⟩ = some (.int .i64 pl) := c2
      have d0' : (w.drewN n).cell? ⟨g2, o2 + k * 3, none⟩ = some (.string tx) := d0
      have d1' : (w.drewN n).cell? ⟨g2, o2 + k * 3 + 1, none⟩ = some (.bool qd) := d1
      have d2' : (w.drewN n).cell? ⟨g2, o2 + k * 3 + 2, none⟩ = some (.int .i64 pl) := d2
      clear HA HB
      go_wp2_with fail
      go_quiet (fail)
      go_wp2
      exact ⟨⟨k + 1, by go_num, by omega, _, rfl⟩, by simp only [intOf]; omega⟩
    · have hge : ¬ (k : Int) < (N : Int) := by omega
      go_wp2
      go_ret
      exact ⟨rfl, n, rfl⟩

/-- a row whose cells nobody names -/
theorem own_set {w : World} {base n cap : Nat} {t : TypeId} {g : Nat} {xs : List Value} (h : w.ownsRow base t 3 (.slice (some ⟨g, 0, none⟩) n cap) n xs) (j : Nat) (u : Value) : ∃ ys, (w.setCell ⟨g, j, none⟩ u).ownsRow base t 3 (.slice (some ⟨g, 0, none⟩) n cap) n ys := by
  obtain ⟨hl, ho⟩ := h
  rcases ho with ⟨e, _⟩ | ⟨g', cap', cur, e, hgb, hg, h1, h2, h3, h4⟩
  · cases e
  · cases e
    refine ⟨((cur.setIfInBounds j u).toList.take (n * 3)), ?_, .inr ⟨g, cap, cur.setIfInBounds j u, rfl, hgb, heap_setCell_same w g j cur t u hg, h1, h2, by simpa using h3, rfl⟩⟩
    rw [List.length_take]
    simp
    rw [h3]
    omega
theorem own_slice {w : World} {base n : Nat} {t : TypeId} {v : Value} {xs : List Value} (h : w.ownsRow base t 3 v n xs) : (∃ g cap, v = .slice (some ⟨g, 0, none⟩) n cap ∧ base ≤ g ∧ g < w.heap.size ∧ n ≤ cap ∧ ∃ cur, w.heap[g]? = some (.cells cur t (0, 0)) ∧ cur.size = cap * 3) ∨ (v = .slice none 0 0 ∧ n = 0) := by
  rcases h.2 with h | ⟨g, cap, cur, e, hgb, hg, h1, h2, h3, h4⟩
  · exact .inr h
  · exact .inl ⟨g, cap, e, hgb, (Array.getElem?_eq_some_iff.1 hg).1, h1, cur, hg, h3⟩
theorem gb_refl (w : World) (o : Option Nat) : w.grownBy w o := ⟨rfl, rfl, rfl, Nat.le_refl _, fun _ _ _ => rfl⟩
theorem gb_set {w w1 : World} {g : Nat} (h : w.grownBy w1 (some g)) (j : Nat) (u : Value) : w.grownBy (w1.setCell ⟨g, j, none⟩ u) (some g) :=
  ⟨h.os, h.tape, h.output, by have := h.size; simp [World.setCell]; exact this, fun k hk hne => (Below.heap_setCell _ _ _ _ (fun e => hne (by rw [e]))).trans (h.block k hk hne)⟩
theorem gb_alloc {w w1 : World} {o : Option Nat} (h : w.grownBy w1 o) (x : Obj) : w.grownBy (w1.alloc x) o := by
  have hb := (Below.refl w1.heap.size w1).alloc (Nat.le_refl _) x
  exact ⟨hb.os.trans h.os, hb.tape.trans h.tape, hb.output.trans h.output, Nat.le_trans h.size hb.size, fun k hk hne => (hb.block k (Nat.lt_of_lt_of_le hk h.size)).trans (h.block k hk hne)⟩
theorem gb_trans {w w1 w2 : World} {o o' : Option Nat} (h : w.grownBy w1 o) (h' : w1.grownBy w2 o') (ho : o' = o ∨ ∀ k, o' = some k → w.heap.size ≤ k) : w.grownBy w2 o := by
  refine ⟨h'.os.trans h.os, h'.tape.trans h.tape, h'.output.trans h.output, Nat.le_trans h.size h'.size, fun k hk hne => ?_⟩
  refine (h'.block k (Nat.lt_of_lt_of_le hk h.size) (fun e => ?_)).trans (h.block k hk hne)
  rcases ho with rfl | ho
  · exact hne e
  · have := ho k e.symm; omega
/-- three cells of a row are there, and may be written -/
theorem row_cell {w : World} {g cap n k : Nat} {cur : Array Value} {t : TypeId} (hg : w.heap[g]? = some (.cells cur t (0, 0))) (hs : cur.size = cap * 3) (hk : k < n) (hn : n ≤ cap) (j : Nat) (hj : j < 3) : ∃ u, w.cell? ⟨g, k * 3 + j, none⟩ = some u := by
  have : k * 3 + j < cur.size := by rw [hs]; omega
  refine ⟨cur[k * 3 + j], ?_⟩
  simp [World.cell?, hg, this]
end Go.Proofs.YtckjededijgjgaaDoor.Wo
namespace Go.Proofs.YtckjededijgjgaaDoor.Wo
open Go.RowKit
open Go.Proofs.YtckjededijgjgaaDoor.Jn (W3 Ws cells3 cellsW new3 one3 info40 own3_grown)
open Go.Proofs.YtckjededijgjgaaDoor.Enc (Spans)
set_option linter.unusedVariables false

theorem wrd_len (s : ByteArray) (f : Nat) : ∀ q acc, acc.length ≤ 64 → (wrdG s f q acc).1.length ≤ 64 := by
  induction f with
  | zero => intro q acc h; rw [wrdG]; exact h
  | succ f ih =>
    intro q acc h
    rw [wrdG]
    split
    · split
      · simp
      · split
        · simp
        · rename_i h64 _
          exact ih _ _ (by rw [List.length_append, List.length_singleton]; omega)
    · exact h
theorem words_len (s : ByteArray) : (wordsG s).1.length ≤ 64 := by
  unfold wordsG
  split
  · simp
  · exact wrd_len s 65 _ [] (by simp)
theorem same_b {l : List W3} (hl : l.length ≤ 64) {w : World} {ad bd : Option Addr} {a b c d : Nat} (ca cb : Nat) (hA : Rw w ad l a b) (hB : Rw w bd l c d) :
    Calls Tryd.prog 41 #[.slice ad l.length ca, .slice bd l.length cb] w fun e w' => e = .returned (.bool true) ∧ Below w.heap.size w w' :=
  (sameWords_any l hl w ad bd ca cb hA.ws hB.ws).mono fun e w' ⟨he, n, hw⟩ => ⟨he, by rw [hw]; exact below_drewN (Below.refl _ w) n⟩
theorem own_at {w : World} {base n cap : Nat} {t : TypeId} {ad : Option Addr} {xs : List Value} (h : w.ownsRow base t 3 (.slice ad n cap) n xs) (k : Nat) (hk : (Value.slice ad n cap).ownBlock = some k) : base ≤ k ∧ k < w.heap.size := by
  rcases own_slice h with ⟨g, cp, e, h1, h2, _⟩ | ⟨e, _⟩
  · cases e; cases hk; exact ⟨h1, h2⟩
  · cases e; cases hk

set_option maxRecDepth 100000 in
set_option maxHeartbeats 8000000 in
theorem wordsLaw_walk (s : ByteArray) (hs : s.size ≤ 1048576) (w : World) (R off cap : Nat) (hS : Spans w R off cap) :
    Calls Tryd.prog 15 #[.string s] w fun e w' => e = .returned (.bool true) ∧ Below w.heap.size w w' := by
  obtain ⟨i0, hi0, hz0, hz1, hz2⟩ := info_parts info40
  have nm := fun n w => Rn.num_any n w
  have hl1 := words_len s
  have hl2 := words_len ((⟨#[111, 116, 104, 101, 114, 32]⟩ : ByteArray) ++ s)
  have HT := hide (fun (b : ByteArray) (W : World) (hb : Below w.heap.size w W) => words_any b W R off cap (hS.below hb (Nat.le_refl _)))
  have HR := hide (fun (b : ByteArray) (W : World) => refWords_any b W)
  have hsI : (s.size : Int) ≤ 1048576 := by omega
  clear hS
  have R1 := HR.out s w
  have T1 := HT.out s
  have T2 := HT.out ((⟨#[111, 116, 104, 101, 114, 32]⟩ : ByteArray) ++ s)
  have R2 := HR.out ((⟨#[111, 116, 104, 101, 114, 32]⟩ : ByteArray) ++ s)
  obtain ⟨L, P, E, hW1⟩ : ∃ L P E, wordsG s = (L, P, E) := ⟨_, _, _, rfl⟩
  obtain ⟨L2, P2, E2, hW2⟩ : ∃ L P E, wordsG ((⟨#[111, 116, 104, 101, 114, 32]⟩ : ByteArray) ++ s) = (L, P, E) := ⟨_, _, _, rfl⟩
  rw [hW1] at hl1 R1 T1
  rw [hW2] at hl2 T2 R2
  simp only at hl1 hl2
  clear hW1 hW2 HT HR
  have HT1 := hide T1
  have HT2 := hide T2
  have HR2 := hide R2
  have bp : (P == P) = true := by simp
  have be : (E == E) = true := by simp
  clear T1 T2 R2
  go_enter Tryd.func15, Tryd.ntmps15
  go_wp2_with fail
  refine R1.mono ?_; rintro e w1 ⟨vW, rfl, hrW, hb1⟩
  obtain ⟨adW, cpW, rfl, rW1⟩ := rw_of hrW
  clear R1 hrW
  have C1 := HT1.out w1 hb1
  go_wp2_with fail
  refine C1.mono ?_; rintro e w2 ⟨vA, rfl, hrA, hb2⟩
  have hB2 := hb1.trans (hb2.mono hb1.size)
  obtain ⟨adA, cpA, rfl, rA2⟩ := rw_of hrA
  have rW2 := rW1.below hb2
  clear C1 rW1
  simp only at hrA
  go_wp2_with fail
  refine (same_b hl1 cpA cpW rA2 rW2).mono ?_; rintro e w3 ⟨rfl, hb3⟩
  have hB3 := hB2.trans (hb3.mono hB2.size)
  have hrA3 := own40_below hrA hb3
  have rA3 := rA2.below hb3
  have rW3 := rW2.below hb3
  go_wp2_with fail
  refine (nm _ _).mono ?_; rintro e w4 ⟨rfl, hw⟩; obtain rfl := hw.symm
  have C2 := HT2.out w3 hB3
  go_wp2_with fail
  refine C2.mono ?_; rintro e w4 ⟨vX, rfl, hrX, hb4⟩
  have hB4 := hB3.trans (hb4.mono hB3.size)
  obtain ⟨adX, cpX, rfl, rX4⟩ := rw_of hrX
  have C3 := HT1.out w4 hB4
  clear C2 HT2 hrX
  go_wp2_with fail
  refine C3.mono ?_; rintro e w5 ⟨vB, rfl, hrB, hb5⟩
  have hB5 := hB4.trans (hb5.mono hB4.size)
  obtain ⟨adB, cpB, rfl, rB5⟩ := rw_of hrB
  simp only at hrB
  have C4 := HR2.out w5
  clear C3 HR2
  go_wp2_with fail
  refine C4.mono ?_; rintro e w6 ⟨vY, rfl, hrY, hb6⟩
  have hB6 := hB5.trans (hb6.mono hB5.size)
  obtain ⟨adY, cpY, rfl, rY6⟩ := rw_of hrY
  clear C4 hrY
  have rW6 := ((rW3.below hb4).below hb5).below hb6
  have rA6 := ((rA3.below hb4).below hb5).below hb6
  have rX6 := (rX4.below hb5).below hb6
  have rB6 := rB5.below hb6
  have hrA6 := own40_below (own40_below (own40_below hrA3 hb4) hb5) hb6
  have hrB6 := own40_below hrB hb6
  have hrB5 := hrB
  clear rW3 rA3 rX4 rB5 hrA3 hrB
  go_wp2_with fail
  refine (same_b hl1 cpA cpW rA6 rW6).mono ?_; rintro e w7 ⟨rfl, hb7⟩
  go_wp2_with fail
  refine (same_b hl1 cpB cpW (rB6.below hb7) (rW6.below hb7)).mono ?_; rintro e w8 ⟨rfl, hb8⟩
  go_wp2_with fail
  refine (same_b hl2 cpX cpY ((rX6.below hb7).below hb8) ((rY6.below hb7).below hb8)).mono ?_; rintro e w9 ⟨rfl, hb9⟩
  have hb79 := (hb7.trans (hb8.mono hb7.size)).trans (hb9.mono (Nat.le_trans hb7.size hb8.size))
  have hB9 := hB6.trans (hb79.mono hB6.size)
  have rW9 := rW6.below hb79
  have rX9 := rX6.below hb79
  have rB9 := rB6.below hb79
  have rY9 := rY6.below hb79
  have hrA9 := own40_below hrA6 hb79
  have hrB9 := own40_below hrB6 hb79
  have z1 := hb1.size
  have z2 := hb2.size
  have z3 := hb3.size
  have z4 := hb4.size
  have z5 := hb5.size
  have z6 := hb6.size
  have z79 := hb79.size
  have zB9 := hB9.size
  have oA : ∀ k, (Value.slice adA L.length cpA).ownBlock = some k → w1.heap.size ≤ k ∧ k < w2.heap.size := fun k hk => own_at hrA k hk
  have oB : ∀ k, (Value.slice adB L.length cpB).ownBlock = some k → w4.heap.size ≤ k ∧ k < w6.heap.size := fun k hk => own_at hrB6 k hk
  have HBY : Hid (∀ k, (Value.slice adB L.length cpB).ownBlock = some k → k < w5.heap.size) := fun k hk => (own_at hrB5 k hk).2
  clear hrB5 hb2 hb3 hb4 hb5 hb6 hb7 hb8 hb9 hb79 rW2 rA2 hrA rA6 rW6 rX6 rB6 rY6 hrA6 hrB6 hB2 hB3 hB4 hB5 hB6 hb1
  have HOA := hide oA
  have HOB := hide oB
  clear oA oB
  obtain ⟨n0, hn0⟩ : ∃ n0, L.length = n0 := ⟨_, rfl⟩
  have HN0 := hide hn0
  have hn64 : n0 ≤ 64 := by omega
  have hnI : (n0 : Int) ≤ 64 := by omega
  have HFA : Hid (∀ k, w.heap.size ≤ k → k < w1.heap.size → some k ≠ (Value.slice adA L.length cpA).ownBlock) := fun k h1 h2 e => by have := HOA.out k e.symm; omega
  have HFX : Hid (∀ k, w3.heap.size ≤ k → some k ≠ (Value.slice adA L.length cpA).ownBlock) := fun k h1 e => by have := HOA.out k e.symm; omega
  have HGA : Hid (∀ k, w.heap.size ≤ k → k < w1.heap.size → some k ≠ (Value.slice adB L.length cpB).ownBlock) := fun k h1 h2 e => by have := HOB.out k e.symm; omega
  have HGX : Hid (∀ k, w3.heap.size ≤ k → k < w4.heap.size → some k ≠ (Value.slice adB L.length cpB).ownBlock) := fun k h1 h2 e => by have := HOB.out k e.symm; omega
  have HBA : Hid ((Value.slice adB L.length cpB).ownBlock = none ∨ (Value.slice adB L.length cpB).ownBlock ≠ (Value.slice adA L.length cpA).ownBlock) := by
    cases hb : (Value.slice adB L.length cpB).ownBlock with
    | none => exact .inl rfl
    | some k =>
      right
      intro e
      have h1 := HOB.out k hb
      have h2 := HOA.out k e.symm
      omega
  have HWA : Hid (∀ k, (Value.slice adA L.length cpA).ownBlock = some k → w.heap.size ≤ k) := fun k h => by have := HOA.out k h; omega
  have HWB : Hid (∀ k, (Value.slice adB L.length cpB).ownBlock = some k → w.heap.size ≤ k) := fun k h => by have := HOB.out k h; omega
  rw [hn0] at HFA HFX HGA HGX HBA HWA HWB hrA9 hrB9 HOB HBY
  have SB := fun (W : World) (ad bd : Option Addr) (a b c d ca cb : Nat) (h1 : Rw W ad L a b) (h2 : Rw W bd L c d) => same_b hl1 ca cb h1 h2
  have SX := fun (W : World) (ad bd : Option Addr) (a b c d ca cb : Nat) (h1 : Rw W ad L2 a b) (h2 : Rw W bd L2 c d) => same_b hl2 ca cb h1 h2
  rw [hn0] at SB
  have HSB := hide SB
  have HSX := hide SX
  clear SB SX HOA
  go_wp2_with fail
  try rw [hn0]
  clear hn0 hl1
  have HRY : Hid (Rw w9 adY L2 w5.heap.size w6.heap.size) := rY9
  obtain ⟨xA, hxA⟩ : ∃ xs, cellsW L = xs := ⟨_, rfl⟩
  rw [hxA] at hrA9 hrB9
  clear hxA
  go_loopw [19] (fun kv wr => ∃ (k : Nat) (xs : List Value), kv = .int .i64 (k : Int) ∧ k ≤ n0 ∧ wr.ownsRow w1.heap.size 40 3 (.slice adA n0 cpA) n0 xs ∧ w9.grownBy wr (Value.slice adA n0 cpA).ownBlock ∧ Below w.heap.size w wr) (fun kv _ => n0 - (intOf kv).toNat)
  case atStart => exact ⟨0, _, rfl, by omega, hrA9, gb_refl _ _, hB9⟩
  case round =>
    obtain ⟨k, xs, rfl, hk, hrow, hgb, hB⟩ := hrel
    by_cases hlt : k < n0
    · have hltI : (k : Int) < (n0 : Int) := by omega
      rcases own_slice hrow with ⟨g, cp, e, hg0, hg1, hcp, cur, hcur, hcs⟩ | ⟨_, e⟩
      · cases e
        obtain ⟨u0, k0⟩ := row_cell hcur hcs hlt hcp 0 (by omega)
        obtain ⟨u1, k1⟩ := row_cell hcur hcs hlt hcp 1 (by omega)
        obtain ⟨u2, k2⟩ := row_cell hcur hcs hlt hcp 2 (by omega)
        rw [Nat.add_zero] at k0
        have f0 := frozen_of_row wr g (k * 3) _ 40 hcur
        have f1 := frozen_of_row wr g (k * 3 + 1) _ 40 hcur
        have f2 := frozen_of_row wr g (k * 3 + 2) _ 40 hcur
        obtain ⟨y1, s1⟩ := own_set hrow (k * 3) (.string ⟨#[115, 112, 111, 105, 108, 116]⟩)
        obtain ⟨y2, s2⟩ := own_set s1 (k * 3 + 1) (.bool false)
        obtain ⟨y3, s3⟩ := own_set s2 (k * 3 + 2) (.int .i64 (-7))
        have g3 := gb_set (gb_set (gb_set (g := g) hgb (k * 3) (.string ⟨#[115, 112, 111, 105, 108, 116]⟩)) (k * 3 + 1) (.bool false)) (k * 3 + 2) (.int .i64 (-7))
        have hwg : w.heap.size ≤ g := by omega
        have b3 := ((hB.setCell (p := ⟨g, k * 3, none⟩) hwg (.string ⟨#[115, 112, 111, 105, 108, 116]⟩)).setCell (p := ⟨g, k * 3 + 1, none⟩) hwg (.bool false)).setCell (p := ⟨g, k * 3 + 2, none⟩) hwg (.int .i64 (-7))
        clear hrow hgb s1 s2 hcur
        go_wp2
        exact ⟨⟨k + 1, y3, by go_num, by omega, s3, g3, b3⟩, by simp only [intOf]; omega⟩
      · omega
    · have hge : ¬ (k : Int) < (n0 : Int) := by omega
      clear hrA9 hlt hk
      go_wp2_with fail
      rename_i w10
      go_loopw [6, 20] (fun v kv wr => ∃ (k : Nat) (xs : List Value), kv = .int .i64 (k : Int) ∧ k ≤ 40 ∧ wr.ownsRow w1.heap.size 40 3 v (n0 + k) xs ∧ Hid (v.ownBlock = (Value.slice adA n0 cpA).ownBlock ∨ ∀ g, v.ownBlock = some g → w9.heap.size ≤ g) ∧ w9.grownBy wr (Value.slice adA n0 cpA).ownBlock ∧ Below w.heap.size w wr) (fun _ kv _ => 40 - (intOf kv).toNat)
      case atStart => exact ⟨0, _, rfl, by omega, hrow, .inl rfl, hgb, hB⟩
      case round =>
        clear hrow hgb hB
        obtain ⟨k, xs, rfl, hk, hrow, HOW, hgb, hB⟩ := hrel
        have hBs := hB.size
        have hgs := hgb.size
        by_cases hlt : k < 40
        · have hltI : (k : Int) < 40 := by omega
          go_wp2_with (first | (at_builtin; refine wpList_append_own_at _ rfl _ _ 37 rfl w1.heap.size 40 i0 _ 3 32 Tryd.underlying37 hi0 hz0 hz1 hz2 rfl (by decide) _ _ _ rfl (hrow.alloc _) ⟨wr.heap.size, 0, none⟩ 1 1 (cells3 (⟨#[109, 111, 114, 101]⟩, false, 0)) rfl rfl (new3 wr (⟨#[109, 111, 114, 101]⟩, false, 0) 40) (one3 (⟨#[109, 111, 114, 101]⟩, false, 0)) ?sa ?sb ?sc ?_; rotate_left 3; intro v5 w5' hown5 hgrow5 _ hob5))
          · have hB5 := (hB.alloc hB.size _).grown hgrow5 (by simp; omega) (fun j ej => by
              rcases hrow.2 with ⟨hv0, _⟩ | ⟨g, cap, cur, hv0, hgb, _⟩
              · rw [hv0] at ej; cases ej
              · rw [hv0] at ej; cases ej; exact Nat.le_trans z1 hgb)
            have hob6 : v5.ownBlock = u6.ownBlock ∨ v5.ownBlock = some (wr.alloc (.cells #[.string ⟨#[109, 111, 114, 101]⟩, .bool false, .int .i64 0] 40)).heap.size := hob5
            clear hob5
            refine ⟨⟨k + 1, _, by go_num, by omega, hown5, ?_, ?_, hB5⟩, by simp only [intOf]; omega⟩
            · rcases hob6 with e | e
              · rcases HOW.out with h | h
                · exact .inl (by rw [e]; exact h)
                · exact .inr (fun g hg => h g (by rw [← e]; exact hg))
              · refine .inr (fun g hg => ?_)
                rw [e] at hg
                cases hg
                simp
                omega
            · refine gb_trans (gb_alloc hgb _) hgrow5 ?_
              exact HOW.out
          case sa => unfold maxLen; omega
          case sb => omega
          case sc => simp; omega
        · have hge2 : ¬ (k : Int) < 40 := by omega
          have hk40 : k = 40 := by omega
          obtain ⟨adF, cpF, hvF⟩ : ∃ ad cp, u6 = .slice ad (n0 + 40) cp := by
            rcases own_slice hrow with ⟨g, cp, e, _⟩ | ⟨_, e⟩
            · rw [hk40] at e; exact ⟨_, _, e⟩
            · omega
          subst hvF
          have rW := rW9.grown hgb HFA.out
          have rB := rB9.grown hgb (fun k h1 _ => HFX.out k (by omega))
          have rX := rX9.grown hgb (fun k h1 _ => HFX.out k h1)
          have rY := HRY.out.grown hgb (fun k h1 _ => HFX.out k (by omega))
          have hrB := hrB9.kept hgb HBA.out
          have c1 := HSB.out wr adB adW _ _ _ _ cpB cpW rB rW
          clear hrow HOW hgb rW9 rB9 rX9 HRY hrB9 HFA HFX HBA HWA hk40 hlt hk
          go_wp2_with fail
          refine c1.mono ?_; rintro e w12 ⟨rfl, hb12⟩
          have c2 := HSX.out w12 adX adY _ _ _ _ cpX cpY (rX.below hb12) (rY.below hb12)
          go_wp2_with fail
          refine c2.mono ?_; rintro e w13 ⟨rfl, hb13⟩
          have hb23 := hb12.trans (hb13.mono hb12.size)
          have hB13 := hB.trans (hb23.mono hB.size)
          have rW13 := rW.below hb23
          have rX13 := rX.below hb23
          have rY13 := rY.below hb23
          have hrB13 := own40_below hrB hb23
          clear c1 c2 rW rB rX rY hrB hb12 hb13 hb23 hB hBs hgs
          go_wp2_with fail
          go_loopw [21] (fun kv wr => ∃ (k : Nat) (xs : List Value), kv = .int .i64 (k : Int) ∧ k ≤ n0 ∧ wr.ownsRow w4.heap.size 40 3 (.slice adB n0 cpB) n0 xs ∧ w13.grownBy wr (Value.slice adB n0 cpB).ownBlock ∧ Below w.heap.size w wr) (fun kv _ => n0 - (intOf kv).toNat)
          case atStart => exact ⟨0, _, rfl, by omega, hrB13, gb_refl _ _, hB13⟩
          case round =>
            clear hrB13 hB13
            obtain ⟨k, xs, rfl, hk, hrow, hgb, hB⟩ := hrel
            by_cases hlt : k < n0
            · have hltI : (k : Int) < (n0 : Int) := by omega
              rcases own_slice hrow with ⟨g, cp, e, hg0, hg1, hcp, cur, hcur, hcs⟩ | ⟨_, e⟩
              · cases e
                obtain ⟨u0, k0⟩ := row_cell hcur hcs hlt hcp 0 (by omega)
                obtain ⟨u1, k1⟩ := row_cell hcur hcs hlt hcp 1 (by omega)
                obtain ⟨u2, k2⟩ := row_cell hcur hcs hlt hcp 2 (by omega)
                rw [Nat.add_zero] at k0
                have f0 := frozen_of_row wr g (k * 3) _ 40 hcur
                have f1 := frozen_of_row wr g (k * 3 + 1) _ 40 hcur
                have f2 := frozen_of_row wr g (k * 3 + 2) _ 40 hcur
                obtain ⟨y1, s1⟩ := own_set hrow (k * 3) (.string ⟨#[115, 112, 111, 105, 108, 116, 32, 116, 111, 111]⟩)
                obtain ⟨y2, s2⟩ := own_set s1 (k * 3 + 1) (.bool false)
                obtain ⟨y3, s3⟩ := own_set s2 (k * 3 + 2) (.int .i64 0)
                have g3 := gb_set (gb_set (gb_set (g := g) hgb (k * 3) (.string ⟨#[115, 112, 111, 105, 108, 116, 32, 116, 111, 111]⟩)) (k * 3 + 1) (.bool false)) (k * 3 + 2) (.int .i64 0)
                have hwg : w.heap.size ≤ g := by omega
                have b3 := ((hB.setCell (p := ⟨g, k * 3, none⟩) hwg (.string ⟨#[115, 112, 111, 105, 108, 116, 32, 116, 111, 111]⟩)).setCell (p := ⟨g, k * 3 + 1, none⟩) hwg (.bool false)).setCell (p := ⟨g, k * 3 + 2, none⟩) hwg (.int .i64 0)
                clear hrow hgb s1 s2 hcur
                go_wp2
                exact ⟨⟨k + 1, y3, by go_num, by omega, s3, g3, b3⟩, by simp only [intOf]; omega⟩
              · omega
            · have hge3 : ¬ (k : Int) < (n0 : Int) := by omega
              have rW := rW13.grown hgb HGA.out
              have rX := rX13.grown hgb (fun k h1 h2 => HGX.out k h1 h2)
              have C5 := HT1.out wr hB
              clear hrow hlt hk
              go_wp2_with fail
              refine C5.mono ?_; rintro e w15 ⟨vC, rfl, hrC, hb15⟩
              obtain ⟨adC, cpC, rfl, rC15⟩ := rw_of hrC
              have c3 := HSB.out w15 adC adW _ _ _ _ cpC cpW rC15 (rW.below hb15)
              simp only [HN0.out] at *
              have hB15 := hB.trans (hb15.mono hB.size)
              have rX15 := rX.below hb15
              have rY15 := (rY13.grown hgb (fun k h1 h2 e => by
                have h3 := HOB.out k e.symm
                have h4 := HBY.out k e.symm
                omega)).below hb15
              clear C5 hrC
              go_wp2_with fail
              refine c3.mono ?_; rintro e w16 ⟨rfl, hb16⟩
              have c4 := HSX.out w16 adX adY _ _ _ _ cpX cpY (rX15.below hb16) (rY15.below hb16)
              go_wp2_with fail
              refine c4.mono ?_; rintro e w17 ⟨rfl, hb17⟩
              have hB17 := (hB15.trans (hb16.mono hB15.size)).trans (hb17.mono (Nat.le_trans hB15.size hb16.size))
              have hlen : (((n0 + 40 : Nat) : Int) == (n0 : Int) + 40) = true := by simp
              go_wp2
              go_ret
              exact ⟨rfl, hB17⟩
end Go.Proofs.YtckjededijgjgaaDoor.Wo
