import Derived.Test.YtckjededijgjgaaDoorWbA
import Derived.Test.YtckjededijgjgaaDoorJnF
import Derived.BigQuiet
import Derived.Deep.QuietTactic
namespace Go.Proofs.YtckjededijgjgaaDoor.Wo
open Go.Proofs.YtckjededijgjgaaDoor.Pc (P4 pieces pcF Ofs)
open Go.Proofs.YtckjededijgjgaaDoor.Bw (blB bareG bfF bareOk)
open Go.Proofs.YtckjededijgjgaaDoor.Uq (rqG)
open Go.Proofs.YtckjededijgjgaaDoor.Jn (W3 joinG lineA wordL badW joinG_good)
open Go.Proofs.YtckjededijgjgaaDoor.Qt (prn qS quoteL ownB pieces_ofs)
open Go.Proofs.YtckjededijgjgaaDoor.Cb (PF PF_ascii PF_zero get_drop chunk ownS own_all)
set_option linter.unusedVariables false

/-- a quoted text is read, whatever stands behind it -/
theorem tail_more (b q : ByteArray) (r : List UInt8) : ∀ (l : List P4), (∀ x ∈ l, Ofs b x) → ∀ (pos : Nat) (nx : Int) (acc : List UInt8), q.data.toList.drop pos = qS b l ++ 34 :: r → nx ≤ (pos : Int) →
    rqG q (PF q pos) nx acc = (acc ++ ownS b l, ((pos + (qS b l).length + 1 : Nat) : Int), 0)
  | [], _, pos, nx, acc, hd, hn => by
    have g := get_drop hd 0 34 rfl
    rw [Nat.add_zero] at g
    have hp := PF_ascii g.1 34 g.2 (by decide)
    have h34 : ((34 : UInt8).toNat : Int) = 34 := rfl
    rw [h34] at hp
    rw [hp, rqG, if_neg (by simp only; omega), if_neg (by simp), if_pos rfl]
    simp only [ownS, List.append_nil, Qt.qS, List.length_nil, Prod.mk.injEq, true_and, and_true]
    omega
  | x :: l, hl, pos, nx, acc, hd, hn => by
    rw [Qt.qS, List.append_assoc] at hd
    have C := chunk b q x (hl x (by simp)) pos (qS b l ++ 34 :: r) hd
    obtain ⟨nx', h1, h2⟩ := C.step nx acc hn
    have hd2 : q.data.toList.drop (pos + (prn (ownB b x).data.toList x.1 x.2.2.2).length) = qS b l ++ 34 :: r := by
      rw [← List.drop_drop, hd, List.drop_left]
    have i := tail_more b q r l (fun y hy => hl y (by simp [hy])) _ nx' (acc ++ (ownB b x).data.toList) hd2 h1
    rw [h2, i, ownS, List.append_assoc, Qt.qS, List.length_append]
    simp only [Prod.mk.injEq, true_and, and_true]
    omega
theorem read_back (b t : ByteArray) (r : List UInt8) (h : t.data.toList = quoteL b ++ r) : rqG t (pieces t) 1 [] = (b.data.toList, ((quoteL b).length : Int), 0) := by
  have hq : quoteL b = 34 :: (qS b (pieces b) ++ [34]) := by unfold Qt.quoteL; simp
  rw [hq] at h ⊢
  have g := get_drop (q := t) (pos := 0) (l := 34 :: (qS b (pieces b) ++ [34]) ++ r) (by rw [List.drop_zero, h]) 0 34 rfl
  have hp := PF_ascii (q := t) (pos := 0) (by omega) 34 g.2 (by decide)
  have hd : t.data.toList.drop 1 = qS b (pieces b) ++ 34 :: r := by rw [h]; simp
  have T := tail_more b t r (pieces b) (pieces_ofs b) 1 1 [] hd (by omega)
  rw [own_all, List.nil_append] at T
  rw [← PF_zero, hp, rqG, if_pos (by simp)]
  rw [show 0 + 1 = 1 from rfl, T]
  simp only [List.length_cons, List.length_append, List.length_nil, Prod.mk.injEq, true_and, and_true]
  omega

/-- the bytes from a place on -/
def dr (s : ByteArray) (p : Nat) : List UInt8 := s.data.toList.drop p
theorem dr_tail (s : ByteArray) (p : Nat) : (tailS s p).data.toList = dr s p := by
  unfold tailS dr
  rw [Lib.extract_data, List.take_of_length_le (by simp)]
theorem dr_lt {s : ByteArray} {p : Nat} {c : UInt8} {r : List UInt8} (h : dr s p = c :: r) : p < s.size ∧ s.get! p = c := by
  have g := get_drop (q := s) (pos := p) (l := c :: r) h 0 c rfl
  rw [Nat.add_zero] at g
  exact g
theorem dr_nil {s : ByteArray} {p : Nat} (h : dr s p = []) : ¬ p < s.size := by
  have := congrArg List.length h
  unfold dr at this
  rw [List.length_drop, Array.length_toList] at this
  have e : s.data.size = s.size := rfl
  simp at this
  omega
theorem dr_add {s : ByteArray} {p : Nat} {a r : List UInt8} (h : dr s p = a ++ r) : dr s (p + a.length) = r := by
  unfold dr at h ⊢
  rw [← List.drop_drop, h, List.drop_left]
theorem dr_le {s : ByteArray} {p : Nat} {a : List UInt8} (h : dr s p = a) : a ≠ [] → p + a.length = s.size := by
  intro hne
  have := congrArg List.length h
  unfold dr at this
  rw [List.length_drop, Array.length_toList] at this
  have e : s.data.size = s.size := rfl
  have : 0 < a.length := List.length_pos_iff.2 hne
  omega
/-- no blank first -/
def NB (r : List UInt8) : Prop := ∀ c t, r = c :: t → blB (c.toNat : Int) = false
theorem skp_blanks (s : ByteArray) : ∀ (bl : List UInt8) (p : Nat) (r : List UInt8), dr s p = bl ++ r → (∀ c ∈ bl, blB (c.toNat : Int) = true) → NB r → skp s p = p + bl.length := by
  intro bl
  induction bl with
  | nil =>
    intro p r h _ hr
    rw [List.nil_append] at h
    rw [skp_stop]
    · rfl
    · intro hc
      cases r with
      | nil => exact dr_nil h hc.1
      | cons c t =>
        have g := dr_lt h
        rw [g.2, hr c t rfl] at hc
        exact absurd hc.2 (by simp)
  | cons c bl ih =>
    intro p r h hb hr
    have g := dr_lt h
    rw [skp_step g.1 (by rw [g.2]; exact hb c (by simp))]
    have h2 : dr s (p + 1) = bl ++ r := dr_add (a := [c]) h
    rw [ih (p + 1) r h2 (fun x hx => hb x (by simp [hx])) hr, List.length_cons]
    omega

/-- from a place on a line holds quoted texts, blanks between, and no more -/
inductive Ln (s : ByteArray) : Nat → List ByteArray → Prop
  | nil (q : Nat) (h : ¬ q < s.size ∨ s.get! q = 35) : Ln s q []
  | cons (q : Nat) (v : ByteArray) (vs : List ByteArray) (r : List UInt8) (h : dr s q = quoteL v ++ r) (hr : ∀ c t, r = c :: t → blB (c.toNat : Int) = true) (hn : Ln s (skp s (q + (quoteL v).length)) vs) : Ln s q (v :: vs)

theorem quote_head (v : ByteArray) : ∃ t, quoteL v = 34 :: t := ⟨_, by unfold Qt.quoteL; rfl⟩
theorem rw_quote {s : ByteArray} {q : Nat} {v : ByteArray} {r : List UInt8} (h : dr s q = quoteL v ++ r) (hr : ∀ c t, r = c :: t → blB (c.toNat : Int) = true) : q < s.size ∧ s.get! q = 34 ∧ rwF s q = ((v, true, (q : Int)), q + (quoteL v).length, 0) := by
  obtain ⟨t, ht⟩ := quote_head v
  have g : q < s.size ∧ s.get! q = 34 := dr_lt (r := t ++ r) (by rw [h, ht]; rfl)
  have hrd : rdF s q = (v.data.toList, ((quoteL v).length : Int), 0) := by
    unfold rdF
    rw [if_pos g.2]
    exact read_back v _ r (by rw [dr_tail, h])
  refine ⟨g.1, g.2, ?_⟩
  unfold rwF
  rw [hrd, if_neg (by simp)]
  have hend : ¬ (s.get! q = 34 ∧ q + ((quoteL v).length : Int).toNat < s.size ∧ blB ((s.get! (q + ((quoteL v).length : Int).toNat)).toNat : Int) = false) := by
    rintro ⟨_, h2, h3⟩
    rw [Int.toNat_natCast] at h2 h3
    have hd := dr_add h
    cases r with
    | nil => exact dr_nil hd h2
    | cons c t' =>
      have g2 := dr_lt hd
      rw [g2.2, hr c t' rfl] at h3
      cases h3
  simp only
  rw [if_neg hend, Int.toNat_natCast]
  simp [g.2]

/-- what is found: the texts, each quoted -/
def Got (l : List W3) (vs : List ByteArray) : Prop := l.length = vs.length ∧ ∀ i (h : i < l.length) (h' : i < vs.length), l[i].1 = vs[i] ∧ l[i].2.1 = true
theorem ln_words (s : ByteArray) : ∀ (vs : List ByteArray) (f q : Nat) (acc : List W3), Ln s q vs → f + acc.length = 65 → acc.length ≤ 64 →
    (acc.length + vs.length ≤ 64 → ∃ l, wrdG s f q acc = (acc ++ l, 0, 0) ∧ Got l vs) ∧ (64 < acc.length + vs.length → ∃ p : Nat, wrdG s f q acc = ([], (p : Int), 18) ∧ q + (64 - acc.length) ≤ p) := by
  intro vs
  induction vs with
  | nil =>
    intro f q acc hL hf ha
    cases hL with
    | nil _ h =>
      refine ⟨fun _ => ⟨[], ?_, by simp [Got]⟩, fun h => by simp at h; omega⟩
      obtain ⟨f, rfl⟩ : ∃ g, f = g + 1 := ⟨f - 1, by omega⟩
      rw [wrdG, if_neg, List.append_nil]
      rintro ⟨h1, h2⟩
      rcases h with h | h
      · exact h h1
      · exact h2 h
  | cons v vs ih =>
    intro f q acc hL hf ha
    cases hL with
    | cons _ _ _ r h hr hn =>
      obtain ⟨g1, g2, g3⟩ := rw_quote h hr
      obtain ⟨f, rfl⟩ : ∃ g, f = g + 1 := ⟨f - 1, by omega⟩
      have h35 : s.get! q ≠ 35 := by rw [g2]; decide
      rw [wrdG, if_pos ⟨g1, h35⟩]
      by_cases h64 : acc.length = 64
      · rw [if_pos h64]
        exact ⟨fun h => by rw [List.length_cons] at h; omega, fun _ => ⟨q, rfl, by omega⟩⟩
      rw [if_neg h64, g3, if_neg (by simp)]
      simp only
      have I := ih f _ (acc ++ [(v, true, (q : Int))]) hn (by simp; omega) (by simp; omega)
      have hskp := (skp_le (s := s) (p := q + (quoteL v).length) (by
        have := congrArg List.length h
        unfold dr at this
        rw [List.length_drop, Array.length_toList, List.length_append] at this
        have e : s.data.size = s.size := rfl
        omega)).1
      have hq2 := quote_two v
      rw [List.length_append, List.length_singleton] at I
      refine ⟨fun hle => ?_, fun hlt => ?_⟩
      · obtain ⟨l, e, hg⟩ := I.1 (by rw [List.length_cons] at hle; omega)
        refine ⟨(v, true, (q : Int)) :: l, ?_, ?_, fun i hi hi' => ?_⟩
        · rw [e, List.append_assoc]; rfl
        · rw [List.length_cons, List.length_cons, hg.1]
        · cases i with
          | zero => exact ⟨rfl, rfl⟩
          | succ i => exact hg.2 i (by simpa using hi) (by simpa using hi')
      · obtain ⟨p, e, hp⟩ := I.2 (by rw [List.length_cons] at hlt; omega)
        exact ⟨p, e, by omega⟩

/-- the line with separators and a comment -/
def lnS (sep : List UInt8) (vs : List ByteArray) : List UInt8 := vs.flatMap fun v => quoteL v ++ sep
theorem lnS_snoc (sep : List UInt8) (vs : List ByteArray) (v : ByteArray) : lnS sep (vs ++ [v]) = lnS sep vs ++ (quoteL v ++ sep) := by simp [lnS]
theorem ln_sep (s : ByteArray) (sep com : List UInt8) (hs : ∀ c ∈ sep, blB (c.toNat : Int) = true) (hne : sep ≠ []) : ∀ (vs : List ByteArray) (q : Nat), dr s q = lnS sep vs ++ 35 :: com → Ln s q vs := by
  intro vs
  induction vs with
  | nil => intro q h; exact .nil q (.inr (dr_lt h).2)
  | cons v vs ih =>
    intro q h
    have h' : dr s q = quoteL v ++ (sep ++ (lnS sep vs ++ 35 :: com)) := by rw [h]; simp [lnS]
    refine .cons q v vs _ h' (fun c t e => ?_) ?_
    · cases sep with
      | nil => exact absurd rfl hne
      | cons a b =>
        simp at e
        rw [← e.1]
        exact hs a (by simp)
    · have hd := dr_add h'
      have hk := skp_blanks s sep _ _ hd hs (fun c t e => by
        cases vs with
        | nil => simp [lnS] at e; rw [← e.1]; rfl
        | cons v2 vs2 =>
          obtain ⟨t2, ht2⟩ := quote_head v2
          simp [lnS, ht2] at e
          rw [← e.1]; rfl)
      rw [hk]
      exact ih _ (dr_add hd)
/-- the short line: blanks between -/
def lnB : List ByteArray → List UInt8
  | [] => []
  | v :: vs => 32 :: quoteL v ++ lnB vs
theorem ln_blank (s : ByteArray) : ∀ (vs : List ByteArray) (q : Nat) (v : ByteArray), dr s q = quoteL v ++ lnB vs → Ln s q (v :: vs) := by
  intro vs
  induction vs with
  | nil =>
    intro q v h
    refine .cons q v [] _ h (fun c t e => by simp [lnB] at e) ?_
    have hd := dr_add h
    have hk := skp_blanks s [] _ (lnB []) hd (fun c hc => by simp at hc) (fun c t e => by cases e)
    rw [hk]
    exact .nil _ (.inl (by rw [List.length_nil, Nat.add_zero]; exact dr_nil hd))
  | cons v2 vs ih =>
    intro q v h
    refine .cons q v (v2 :: vs) _ h (fun c t e => by simp [lnB] at e; rw [← e.1]; rfl) ?_
    have hd := dr_add h
    have hd2 : dr s (q + (quoteL v).length) = [32] ++ (quoteL v2 ++ lnB vs) := by rw [hd]; simp [lnB]
    have hk := skp_blanks s [32] _ _ hd2 (fun c hc => by simp at hc; subst hc; rfl) (fun c t e => by
      obtain ⟨t2, ht2⟩ := quote_head v2
      rw [ht2] at e
      simp at e
      rw [← e.1]; rfl)
    rw [hk]
    exact ih _ _ (dr_add hd2)
/-- words out of texts, each quoted -/
def qWs (vs : List ByteArray) : List W3 := vs.map fun v => (v, true, 0)
theorem lineA_false (vs : List ByteArray) : lineA false (qWs vs) = lnB vs := by
  induction vs with
  | nil => rfl
  | cons v vs ih =>
    show (if false = true then [] else [32]) ++ wordL (v, true, 0) ++ lineA false (qWs vs) = _
    rw [ih]
    simp [lnB, Jn.wordL]
theorem lineA_true (v : ByteArray) (vs : List ByteArray) : lineA true (qWs (v :: vs)) = quoteL v ++ lnB vs := by
  show (if true = true then [] else [32]) ++ wordL (v, true, 0) ++ lineA false (qWs vs) = _
  rw [lineA_false]
  simp [Jn.wordL]
theorem lnB_len (sep : List UInt8) (hne : sep ≠ []) (vs : List ByteArray) : (lnB vs).length ≤ (lnS sep vs).length := by
  have h1 : 0 < sep.length := List.length_pos_iff.2 hne
  induction vs with
  | nil => simp [lnB]
  | cons v vs ih =>
    simp only [lnB, List.cons_append, List.length_cons, List.length_append, lnS, List.flatMap_cons] at ih ⊢
    omega
theorem line_len (sep : List UInt8) (hne : sep ≠ []) (vs : List ByteArray) : (lineA true (qWs vs)).length ≤ (lnS sep vs).length := by
  cases vs with
  | nil => simp [qWs, Jn.lineA]
  | cons v vs =>
    have := lnB_len sep hne vs
    rw [lineA_true]
    simp only [lnS, List.flatMap_cons, List.length_append] at this ⊢
    omega
theorem join_quoted (vs : List ByteArray) (h : ¬ 64 < vs.length) : joinG (qWs vs) = if 4096 < (lineA true (qWs vs)).length then ([], 4096, 10) else (lineA true (qWs vs), 0, 0) :=
  joinG_good (l := qWs vs) (by simpa [qWs] using h) (fun j hj => by simp [qWs, Jn.badW])

/-- the words of the first line -/
theorem words_line {s : ByteArray} {sep com : List UInt8} {vs : List ByteArray} (hs : ∀ c ∈ sep, blB (c.toNat : Int) = true) (hne : sep ≠ []) (h : s.data.toList = sep ++ lnS sep vs ++ 35 :: com) :
    (4096 < s.size → wordsG s = ([], 4096, 10)) ∧ (¬ 4096 < s.size → 64 < vs.length → ∃ p : Nat, wordsG s = ([], (p : Int), 18) ∧ 64 < p) ∧ (¬ 4096 < s.size → ¬ 64 < vs.length → ∃ l, wordsG s = (l, 0, 0) ∧ Got l vs) := by
  have h0 : dr s 0 = sep ++ (lnS sep vs ++ 35 :: com) := by unfold dr; rw [List.drop_zero, h, List.append_assoc]
  have hk := skp_blanks s sep 0 _ h0 hs (fun c t e => by
    cases vs with
    | nil => simp [lnS] at e; rw [← e.1]; rfl
    | cons v2 vs2 =>
      obtain ⟨t2, ht2⟩ := quote_head v2
      simp [lnS, ht2] at e
      rw [← e.1]; rfl)
  have hL := ln_sep s sep com hs hne vs (0 + sep.length) (dr_add h0)
  have h1 : 0 < sep.length := List.length_pos_iff.2 hne
  have I := ln_words s vs 65 (0 + sep.length) [] hL (by simp) (by simp)
  refine ⟨fun hb => by unfold wordsG; rw [if_pos hb], fun hb hv => ?_, fun hb hv => ?_⟩
  · obtain ⟨p, e, hp⟩ := I.2 (by simpa using hv)
    refine ⟨p, ?_, by simp at hp; omega⟩
    unfold wordsG
    rw [if_neg hb, hk, e]
  · obtain ⟨l, e, hg⟩ := I.1 (by simpa using hv)
    refine ⟨l, ?_, hg⟩
    unfold wordsG
    rw [if_neg hb, hk, e, List.nil_append]
/-- the words of the short line -/
theorem words_short {s : ByteArray} {vs : List ByteArray} (h : s.data.toList = lineA true (qWs vs)) (hb : ¬ 4096 < s.size) (hv : ¬ 64 < vs.length) : ∃ l, wordsG s = (l, 0, 0) ∧ Got l vs := by
  have h0 : dr s 0 = lineA true (qWs vs) := by unfold dr; rw [List.drop_zero, h]
  have hL : Ln s (skp s 0) vs := by
    cases vs with
    | nil =>
      have h0' : dr s 0 = [] := h0
      have hk := skp_blanks s [] 0 [] (by rw [h0']; rfl) (fun c hc => by simp at hc) (fun c t e => by cases e)
      rw [hk]
      exact .nil _ (.inl (dr_nil h0'))
    | cons v vs =>
      rw [lineA_true] at h0
      have hk := skp_blanks s [] 0 (quoteL v ++ lnB vs) h0 (fun c hc => by simp at hc) (fun c t e => by
        obtain ⟨t2, ht2⟩ := quote_head v
        rw [ht2] at e
        simp at e
        rw [← e.1]; rfl)
      rw [hk]
      exact ln_blank s vs _ v h0
  have I := ln_words s vs 65 (skp s 0) [] hL (by simp) (by simp)
  obtain ⟨l, e, hg⟩ := I.1 (by simpa using hv)
  refine ⟨l, ?_, hg⟩
  unfold wordsG
  rw [if_neg hb, e, List.nil_append]
end Go.Proofs.YtckjededijgjgaaDoor.Wo
namespace Go.Proofs.YtckjededijgjgaaDoor.Wo
open Go.RowKit
open Go.Proofs.YtckjededijgjgaaDoor.Jn (W3 joinG join_any lineA Ws cells3 cellsW cellsW_snoc new3 one3 info40 own3_grown ws_of)
open Go.Proofs.YtckjededijgjgaaDoor.Qt (quoteL quote_any tabs_below)
open Go.Proofs.YtckjededijgjgaaDoor.Hx (Tabs)
open Go.Proofs.YtckjededijgjgaaDoor.Enc (Spans)
open Go.Proofs.YtckjededijgjgaaDoor.Uq (three)
set_option linter.unusedVariables false

/-- texts in memory -/
def Sv (w : World) (ad : Option Addr) (vs : List ByteArray) : Prop := ∀ k (hk : k < vs.length), ∃ g off, ad = some ⟨g, off, none⟩ ∧ g < w.heap.size ∧ w.cell? ⟨g, off + k, none⟩ = some (.string vs[k])
theorem Sv.below {w w' : World} {ad : Option Addr} {vs : List ByteArray} {B : Nat} (h : Sv w ad vs) (hb : Below B w w') (hB : w.heap.size ≤ B) : Sv w' ad vs := by
  intro k hk
  obtain ⟨g, off, h0, h1, c0⟩ := h k hk
  exact ⟨g, off, h0, Nat.lt_of_lt_of_le h1 hb.size, (hb.cell (p := ⟨g, off + k, none⟩) (Nat.lt_of_lt_of_le h1 hB)).trans c0⟩
def tot (vs : List ByteArray) : Nat := (vs.map fun v => v.size + 1).sum
theorem lnS_len (sep : List UInt8) (hs : sep.length ≤ 2) (vs : List ByteArray) : (lnS sep vs).length ≤ 6 * tot vs := by
  induction vs with
  | nil => simp [lnS, tot]
  | cons v vs ih =>
    have := quote_six v
    simp only [lnS, tot, List.flatMap_cons, List.length_append, List.map_cons, List.sum_cons] at ih ⊢
    omega
theorem lnS_take (sep : List UInt8) (vs : List ByteArray) (k : Nat) : (lnS sep (vs.take k)).length ≤ (lnS sep vs).length := by
  have e : lnS sep vs = lnS sep (vs.take k) ++ lnS sep (vs.drop k) := by
    unfold lnS
    rw [← List.flatMap_append, List.take_append_drop]
  rw [e, List.length_append]
  omega
theorem tot_mem {vs : List ByteArray} {v : ByteArray} (h : v ∈ vs) : v.size + 1 ≤ tot vs := by
  induction vs with
  | nil => simp at h
  | cons u vs ih =>
    simp only [tot, List.map_cons, List.sum_cons]
    rcases List.mem_cons.1 h with rfl | h
    · omega
    · have := ih h
      unfold tot at this
      omega
theorem tot_len (vs : List ByteArray) : vs.length ≤ tot vs := by
  induction vs with
  | nil => simp
  | cons u vs ih => simp only [tot, List.map_cons, List.sum_cons, List.length_cons] at ih ⊢; omega
/-- a separator -/
structure Sp (b : ByteArray) : Prop where
  bl : ∀ c ∈ b.data.toList, Bw.blB (c.toNat : Int) = true
  ne : b.data.toList ≠ []
  le : b.size ≤ 2
theorem sp1 : Sp ⟨#[9, 32]⟩ := ⟨by decide, by decide, by decide⟩
theorem sp2 : Sp ⟨#[32]⟩ := ⟨by decide, by decide, by decide⟩
theorem size_list (b : ByteArray) : b.data.toList.length = b.size := by rw [Array.length_toList]; rfl
theorem app_list (a b : ByteArray) : (a ++ b).data.toList = a.data.toList ++ b.data.toList := by simp
theorem got_cells {w : World} {base : Nat} {v : Value} {l : List W3} (h : w.ownsRow base 40 3 v l.length (cellsW l)) : ∃ ad cap, v = .slice ad l.length cap ∧ ∀ k (hk : k < l.length), ∃ g, ad = some ⟨g, 0, none⟩ ∧ g < w.heap.size ∧ w.cell? ⟨g, k * 3, none⟩ = some (.string l[k].1) ∧ w.cell? ⟨g, k * 3 + 1, none⟩ = some (.bool l[k].2.1) := by
  obtain ⟨ad, cap, hv, hW, hg⟩ := ws_of h
  refine ⟨ad, cap, hv, fun k hk => ?_⟩
  obtain ⟨g, rfl⟩ := hg k hk
  obtain ⟨g', o', e, hlt, c0, c1, _⟩ := hW k hk
  cases e
  simp only [Nat.zero_add] at c0 c1
  exact ⟨g, rfl, hlt, c0, c1⟩

set_option maxRecDepth 100000 in
set_option maxHeartbeats 8000000 in
theorem line_walk (vs : List ByteArray) (blanks : Int) (com : ByteArray) (ht : tot vs ≤ 1048576) (hc : com.size ≤ 1048576) (w : World) (ad : Option Addr) (cap : Nat) (hV : Sv w ad vs) (hT : Tabs w) (R off cap' : Nat) (hS : Spans w R off cap') :
    Calls Tryd.prog 12 #[.slice ad vs.length cap, .int .i64 blanks, .string com] w fun e w' => e = .returned (.bool true) ∧ Below w.heap.size w w' := by
  obtain ⟨i0, hi0, hz0, hz1, hz2⟩ := info_parts info40
  have h5 := hT.five
  have HSZ : Hid (∀ k (hk : k < vs.length), vs[k].size ≤ 1048576) := fun k hk => by have := tot_mem (List.getElem_mem hk); omega
  have HTK : Hid (∀ k (hk : k < vs.length), vs.take (k + 1) = vs.take k ++ [vs[k]]) := fun k hk => by rw [List.take_succ_eq_append_getElem hk]
  have HTT : Hid (vs.take vs.length = vs) := by show _ = _; rw [List.take_length]
  have HLS : Hid (∀ sep : ByteArray, Sp sep → ∀ k, (lnS sep.data.toList (vs.take k)).length ≤ 6291456) := fun sep hsp k => by
    have h1 := lnS_take sep.data.toList vs k
    have h2 := lnS_len sep.data.toList (by rw [size_list]; exact hsp.le) vs
    omega
  have HNN : Hid (vs.length ≤ 1048576) := by have := tot_len vs; show _ ≤ _; omega
  have HQ := hide (fun (v : ByteArray) (hv : v.size ≤ 1048576) (W : World) (hb : Below w.heap.size w W) => quote_any v hv W (tabs_below hT hb h5) R off cap' (hS.below hb (Nat.le_refl _)))
  have HWD := hide (fun (b : ByteArray) (W : World) (hb : Below w.heap.size w W) => words_any b W R off cap' (hS.below hb (Nat.le_refl _)))
  have HJN := hide (fun (W : World) (hb : Below w.heap.size w W) (adw : Option Addr) (cp : Nat) (hw : Ws W adw (qWs vs)) => join_any (qWs vs) (fun x hx => by
    obtain ⟨v, hv, rfl⟩ := List.mem_map.1 hx
    have := tot_mem hv
    show v.size ≤ _
    omega) W adw cp hw (tabs_below hT hb h5) R off cap' (hS.below hb (Nat.le_refl _)))
  have HVV := hide hV
  have hcI : (com.size : Int) ≤ 1048576 := by omega
  clear hV ht hc hT hS
  obtain ⟨N, hN⟩ : ∃ N, vs.length = N := ⟨_, rfl⟩
  have HN := hide hN
  rw [hN]
  clear hN
  have hNI : (N : Int) ≤ 1048576 := by have := HNN.out; have := HN.out; omega
  cases hbb : (bits .and .i64 blanks 1 == 1)
  all_goals go_enter Tryd.func12, Tryd.ntmps12
  all_goals go_wp2_with fail
  · have hsp := sp1
    generalize (⟨#[9, 32]⟩ : ByteArray) = sep at *
    have hspI : (sep.size : Int) ≤ 2 := by have := hsp.le; omega
    have HSP := hide hsp
    clear hsp
    go_loopw [8, 9, 10] (fun lv wv kv wr => ∃ (k : Nat) (L : ByteArray), kv = .int .i64 (k : Int) ∧ lv = .string L ∧ Hid (k ≤ N) ∧ (L.size : Int) ≤ 6291458 ∧ Hid (L.data.toList = sep.data.toList ++ lnS sep.data.toList (vs.take k)) ∧ Below w.heap.size w wr ∧ wr.ownsRow w.heap.size 40 3 wv k (cellsW (qWs (vs.take k)))) (fun _ _ kv _ => N - (intOf kv).toNat)
    case atStart => exact ⟨0, sep, rfl, rfl, by show _ ≤ _; omega, by omega, by show _ = _; simp [lnS], Below.refl _ _, World.ownsRow_nil _ _ _ _⟩
    case round =>
      obtain ⟨k, L, rfl, rfl, HK, hLI, HLL, hB, hrow⟩ := hrel
      have hBs := hB.size
      by_cases hlt : k < N
      · have hkl : k < vs.length := by rw [HN.out]; exact hlt
        obtain ⟨g, o, rfl, hg, c0⟩ := (HVV.out.below hB (Nat.le_refl _)) k hkl
        have hltI : (k : Int) < (N : Int) := by omega
        have hsz := HSZ.out k hkl
        have QT := HQ.out vs[k] hsz wr hB
        have HL2 : Hid ((L ++ ⟨(quoteL vs[k]).toArray⟩ ++ sep).data.toList = sep.data.toList ++ lnS sep.data.toList (vs.take (k + 1))) := by
          show _ = _
          rw [app_list, app_list, HLL.out, HTK.out k hkl, lnS_snoc]
          simp
        have hL2I : ((L ++ ⟨(quoteL vs[k]).toArray⟩ ++ sep).size : Int) ≤ 6291458 := by
          have h1 := HLS.out sep HSP.out (k + 1)
          have h2 := congrArg List.length HL2.out
          have h3 := HSP.out.le
          have h4 := size_list sep
          rw [size_list, List.length_append] at h2
          omega
        have HCW : Hid (cellsW (qWs (vs.take (k + 1))) = cellsW (qWs (vs.take k)) ++ cells3 (vs[k], true, 0)) := by
          show _ = _
          rw [HTK.out k hkl]
          unfold qWs
          rw [List.map_append]
          exact cellsW_snoc _ _
        have HKN : Hid (k + 1 ≤ N ∧ N - (k + 1) < N - k ∧ k + 1 ≤ 1048576) := by
          have := HNN.out
          have := HN.out
          exact ⟨by omega, by omega, by omega⟩
        have hQI : ((⟨(quoteL vs[k]).toArray⟩ : ByteArray).size : Int) ≤ 11000000 := by
          have := Cb.Q_bound vs[k] hsz
          unfold Cb.Q at this
          omega
        generalize vs[k] = v at *
        generalize (⟨(quoteL v).toArray⟩ : ByteArray) = QB at *
        generalize cellsW (qWs (vs.take k)) = xs at *
        clear hlt hkl HLL HLS HTK HSZ hsz
        go_wp2_with fail
        refine QT.mono ?_; rintro e w2 ⟨rfl, hb2⟩
        have hrow2 := own40_below hrow hb2
        have hB2 := hB.trans (hb2.mono hB.size)
        have hBs2 := hB2.size
        have c0' := (hb2.cell (p := ⟨g, o + k, none⟩) hg).trans c0
        clear QT
        go_wp2_with (first | (at_builtin; refine wpList_append_own _ rfl _ _ 37 rfl w.heap.size 40 i0 _ 3 32 Tryd.underlying37 hi0 hz0 hz1 hz2 rfl (by decide) _ _ _ rfl (hrow2.alloc _) ⟨w2.heap.size, 0, none⟩ 1 1 (cells3 (v, true, 0)) rfl rfl (new3 w2 (v, true, 0) 40) (one3 (v, true, 0)) ?sa1 ?sb1 ?sc1 ?_; rotate_left 3; intro v3 w3 hown3 hgrow3 _))
        · obtain ⟨n1, n2, n3⟩ := HKN.out
          have hB3 := own3_grown (hrow2.alloc _) (hB2.alloc hB2.size _) (by simp; omega) hgrow3
          refine ⟨⟨k + 1, _, by go_num, rfl, n1, hL2I, HL2, hB3, ?_⟩, by simp only [intOf]; omega⟩
          rw [HCW.out]
          exact hown3
        case sa1 => unfold maxLen; have := HKN.out; omega
        case sb1 => have := HKN.out; omega
        case sc1 => simp; omega
      · have hge : ¬ (k : Int) < (N : Int) := by omega
        have hkN : k = N := by have := HK.out; omega
        rw [hkN, show vs.take N = vs by rw [← HN.out]; exact HTT.out] at hrow HLL
        have hrl : (qWs vs).length = N := by unfold qWs; rw [List.length_map]; exact HN.out
        rw [← hrl] at hrow
        obtain ⟨adw, capw, rfl, hWw, _⟩ := ws_of hrow
        rw [hrl]
        have HLB : Hid ((L ++ ⟨#[35]⟩ ++ com).data.toList = sep.data.toList ++ lnS sep.data.toList vs ++ 35 :: com.data.toList) := by
          show _ = _
          rw [app_list, app_list, HLL.out]
          simp
        have HZL : Hid (∀ b : ByteArray, b.data.toList = sep.data.toList ++ lnS sep.data.toList vs ++ 35 :: com.data.toList → (lineA true (qWs vs)).length ≤ b.size) := by
          intro b hb
          have h1 := line_len sep.data.toList HSP.out.ne vs
          have h2 := congrArg List.length hb
          rw [size_list, List.length_append, List.length_append] at h2
          omega
        have HWw := hide hWw
        clear HK HLL hrow hkN HLS HTK HTT HQ HSZ hrl hWw hlt
        have WD := HWD.out (L ++ ⟨#[35]⟩ ++ com) wr hB
        go_wp2_with fail
        generalize L ++ ⟨#[35]⟩ ++ com = LB at *
        obtain ⟨W1, W2, W3⟩ := words_line HSP.out.bl HSP.out.ne HLB.out
        have HZ2 := hide (HZL.out LB HLB.out)
        clear HLB HZL
        refine WD.mono ?_; rintro e w2 ⟨gv, rfl, hgr, hb2⟩
        have hB2 := hB.trans (hb2.mono hB.size)
        clear WD
        by_cases hbig : 4096 < LB.size
        · rw [W1 hbig] at hgr ⊢
          have hbI : (4096 : Int) < (LB.size : Int) := by omega
          obtain ⟨ag, cg, hv, _⟩ := ws_of (l := []) hgr
          simp only [List.length_nil] at hv
          subst hv
          clear W1 W2 W3 hgr hbig HZ2
          go_wp2
          go_ret
          exact ⟨rfl, hB2⟩
        have hbI : ¬ (4096 : Int) < (LB.size : Int) := by omega
        by_cases hmany : 64 < N
        · obtain ⟨p, hp, hp64⟩ := W2 hbig (by rw [HN.out]; exact hmany)
          rw [hp] at hgr ⊢
          have hmI : (64 : Int) < (N : Int) := by omega
          have hpI : (64 : Int) < (p : Int) := by omega
          obtain ⟨ag, cg, hv, _⟩ := ws_of (l := []) hgr
          simp only [List.length_nil] at hv
          subst hv
          clear W1 W2 W3 hgr hbig hmany HZ2
          go_wp2
          go_ret
          exact ⟨rfl, hB2⟩
        have hmI : ¬ (64 : Int) < (N : Int) := by omega
        have hvl : ¬ 64 < vs.length := by rw [HN.out]; exact hmany
        obtain ⟨l, hl, hgot⟩ := W3 hbig hvl
        rw [hl] at hgr ⊢
        obtain ⟨ag, cg, hv, hcl⟩ := got_cells hgr
        have hln : l.length = N := by rw [hgot.1]; exact HN.out
        simp only at hgr hv ⊢
        subst hv
        rw [hln]
        have HGC : Hid (∀ k (hk : k < vs.length), ∃ g, ag = some ⟨g, 0, none⟩ ∧ g < w2.heap.size ∧ w2.cell? ⟨g, k * 3, none⟩ = some (.string vs[k]) ∧ w2.cell? ⟨g, k * 3 + 1, none⟩ = some (.bool true)) := by
          intro k hk
          have hk' : k < l.length := by rw [hgot.1]; exact hk
          obtain ⟨g, h1, h2, h3, h4⟩ := hcl k hk'
          obtain ⟨e1, e2⟩ := hgot.2 k hk' hk
          rw [e1] at h3
          rw [e2] at h4
          exact ⟨g, h1, h2, h3, h4⟩
        have HJG := hide (join_quoted vs hvl)
        have HSH := hide (fun (b : ByteArray) (h : b.data.toList = lineA true (qWs vs)) (hb : ¬ 4096 < b.size) => words_short h hb hvl)
        have HV2 : Hid (Sv w2 ad vs) := HVV.out.below hB2 (Nat.le_refl _)
        have HW2 : Hid (Ws w2 adw (qWs vs)) := HWw.out.below hb2 (Nat.le_refl _)
        have HBG := hide hbig
        have hbN : N ≤ 64 := by omega
        clear W1 W2 W3 hgr hcl hgot hl HVV HWw hb2 hbig hmany hvl hln
        go_wp2_with fail
        go_loopw [15] (fun kv wr => ∃ (k : Nat), kv = .int .i64 (k : Int) ∧ k ≤ N ∧ ∃ n, wr = w2.drewN n) (fun kv _ => N - (intOf kv).toNat)
        case atStart => exact ⟨0, rfl, by omega, 0, rfl⟩
        case round =>
          obtain ⟨k, rfl, hk, n, rfl⟩ := hrel
          by_cases hlt : k < N
          · have hkl : k < vs.length := by rw [HN.out]; exact hlt
            obtain ⟨g, rfl, hg, c0, c1⟩ := HGC.out k hkl
            obtain ⟨g2, o2, rfl, hg2, d0⟩ := HV2.out k hkl
            have hltI : (k : Int) < (N : Int) := by omega
            generalize vs[k] = v at *
            have bs : (v.toList == v.toList) = true := by simp
            have c0' : (w2.drewN n).cell? ⟨g, k * 3, none⟩ = some (.string v) := c0
            have c1' : (w2.drewN n).cell? ⟨g, k * 3 + 1, none⟩ = some (.bool true) := c1
            have d0' : (w2.drewN n).cell? ⟨g2, o2 + k, none⟩ = some (.string v) := d0
            clear HGC HV2 HW2 HJG HSH HZ2 HJN HWD
            go_wp2_with fail
            go_quiet (fail)
            go_wp2
            exact ⟨⟨k + 1, by go_num, by omega, _, rfl⟩, by simp only [intOf]; omega⟩
          · have hge : ¬ (k : Int) < (N : Int) := by omega
            have hB3 : Below w.heap.size w (w2.drewN n) := below_drewN hB2 n
            have JN := HJN.out (w2.drewN n) hB3 adw capw (HW2.out.below (below_drewN (Below.refl _ w2) n) (Nat.le_refl _))
            have hsl := HZ2.out
            rw [HJG.out, if_neg (by have := HBG.out; omega)] at JN
            rw [show (qWs vs).length = N by unfold qWs; rw [List.length_map]; exact HN.out] at JN
            have hSB : (⟨(lineA true (qWs vs)).toArray⟩ : ByteArray).data.toList = lineA true (qWs vs) := by simp
            have hSz : (⟨(lineA true (qWs vs)).toArray⟩ : ByteArray).size = (lineA true (qWs vs)).length := by show (lineA true (qWs vs)).toArray.size = _; simp
            obtain ⟨l2, hl2, hgot2⟩ := HSH.out _ hSB (by have := HBG.out; omega)
            have hSI : ¬ (LB.size : Int) < ((⟨(lineA true (qWs vs)).toArray⟩ : ByteArray).size : Int) := by omega
            have WD2 := fun W hb => HWD.out ⟨(lineA true (qWs vs)).toArray⟩ W hb
            rw [hl2] at WD2
            have JN' : Calls Tryd.prog 28 #[.slice adw N capw] (w2.drewN n) fun e w' => e = .returned (.tuple #[.string ⟨(lineA true (qWs vs)).toArray⟩, .int .i64 0, .int .i64 0]) ∧ Below (w2.drewN n).heap.size (w2.drewN n) w' := JN
            have HWD2 := hide WD2
            generalize (⟨(lineA true (qWs vs)).toArray⟩ : ByteArray) = STB at *
            have HVV : Hid (Sv (w2.drewN n) ad vs) := HV2.out.below (below_drewN (Below.refl _ w2) n) (Nat.le_refl _)
            clear HGC HV2 HW2 HJG HSH HZ2 HJN HWD JN hSB hSz hl2 hsl WD2 HBG hlt
            generalize w2.drewN n = w4 at *
            go_wp2_with fail
            refine JN'.mono ?_; rintro e w5 ⟨rfl, hb5⟩
            have hB5 := hB3.trans (hb5.mono hB3.size)
            have WD3 := HWD2.out w5 hB5
            clear JN' HWD2
            go_wp2_with fail
            refine WD3.mono ?_; rintro e w6 ⟨gv, rfl, hgr, hb6⟩
            have hB6 := hB5.trans (hb6.mono hB5.size)
            obtain ⟨ag2, cg2, hv, hcl⟩ := got_cells hgr
            have hln : l2.length = N := by rw [hgot2.1]; exact HN.out
            simp only at hgr hv ⊢
            subst hv
            rw [hln]
            have HGC : Hid (∀ k (hk : k < vs.length), ∃ g, ag2 = some ⟨g, 0, none⟩ ∧ w6.cell? ⟨g, k * 3, none⟩ = some (.string vs[k])) := by
              intro k hk
              have hk' : k < l2.length := by rw [hgot2.1]; exact hk
              obtain ⟨g, h1, h2, h3, h4⟩ := hcl k hk'
              obtain ⟨e1, e2⟩ := hgot2.2 k hk' hk
              rw [e1] at h3
              exact ⟨g, h1, h3⟩
            have HV6 : Hid (Sv w6 ad vs) := (HVV.out.below hb5 (Nat.le_refl _)).below hb6 (Nat.le_refl _)
            clear hgr hcl hgot2 hln HVV WD3 hb5 hb6
            go_wp2_with fail
            go_loopw [22] (fun kv wr => ∃ (k : Nat), kv = .int .i64 (k : Int) ∧ k ≤ N ∧ ∃ n, wr = w6.drewN n) (fun kv _ => N - (intOf kv).toNat)
            case atStart => exact ⟨0, rfl, by omega, 0, rfl⟩
            case round =>
              obtain ⟨k, rfl, hk, n, rfl⟩ := hrel
              by_cases hlt : k < N
              · have hkl : k < vs.length := by rw [HN.out]; exact hlt
                obtain ⟨g, rfl, c0⟩ := HGC.out k hkl
                obtain ⟨g2, o2, rfl, hg2, d0⟩ := HV6.out k hkl
                have hltI : (k : Int) < (N : Int) := by omega
                generalize vs[k] = v at *
                have bs : (v.toList == v.toList) = true := by simp
                have c0' : (w6.drewN n).cell? ⟨g, k * 3, none⟩ = some (.string v) := c0
                have d0' : (w6.drewN n).cell? ⟨g2, o2 + k, none⟩ = some (.string v) := d0
                clear HGC HV6
                go_wp2_with fail
                go_quiet (fail)
                go_wp2
                exact ⟨⟨k + 1, by go_num, by omega, _, rfl⟩, by simp only [intOf]; omega⟩
              · have hge : ¬ (k : Int) < (N : Int) := by omega
                go_wp2
                go_ret
                exact ⟨rfl, below_drewN hB6 n⟩
  · have hsp := sp2
    generalize (⟨#[32]⟩ : ByteArray) = sep at *
    have hspI : (sep.size : Int) ≤ 2 := by have := hsp.le; omega
    have HSP := hide hsp
    clear hsp
    go_loopw [8, 9, 10] (fun lv wv kv wr => ∃ (k : Nat) (L : ByteArray), kv = .int .i64 (k : Int) ∧ lv = .string L ∧ Hid (k ≤ N) ∧ (L.size : Int) ≤ 6291458 ∧ Hid (L.data.toList = sep.data.toList ++ lnS sep.data.toList (vs.take k)) ∧ Below w.heap.size w wr ∧ wr.ownsRow w.heap.size 40 3 wv k (cellsW (qWs (vs.take k)))) (fun _ _ kv _ => N - (intOf kv).toNat)
    case atStart => exact ⟨0, sep, rfl, rfl, by show _ ≤ _; omega, by omega, by show _ = _; simp [lnS], Below.refl _ _, World.ownsRow_nil _ _ _ _⟩
    case round =>
      obtain ⟨k, L, rfl, rfl, HK, hLI, HLL, hB, hrow⟩ := hrel
      have hBs := hB.size
      by_cases hlt : k < N
      · have hkl : k < vs.length := by rw [HN.out]; exact hlt
        obtain ⟨g, o, rfl, hg, c0⟩ := (HVV.out.below hB (Nat.le_refl _)) k hkl
        have hltI : (k : Int) < (N : Int) := by omega
        have hsz := HSZ.out k hkl
        have QT := HQ.out vs[k] hsz wr hB
        have HL2 : Hid ((L ++ ⟨(quoteL vs[k]).toArray⟩ ++ sep).data.toList = sep.data.toList ++ lnS sep.data.toList (vs.take (k + 1))) := by
          show _ = _
          rw [app_list, app_list, HLL.out, HTK.out k hkl, lnS_snoc]
          simp
        have hL2I : ((L ++ ⟨(quoteL vs[k]).toArray⟩ ++ sep).size : Int) ≤ 6291458 := by
          have h1 := HLS.out sep HSP.out (k + 1)
          have h2 := congrArg List.length HL2.out
          have h3 := HSP.out.le
          have h4 := size_list sep
          rw [size_list, List.length_append] at h2
          omega
        have HCW : Hid (cellsW (qWs (vs.take (k + 1))) = cellsW (qWs (vs.take k)) ++ cells3 (vs[k], true, 0)) := by
          show _ = _
          rw [HTK.out k hkl]
          unfold qWs
          rw [List.map_append]
          exact cellsW_snoc _ _
        have HKN : Hid (k + 1 ≤ N ∧ N - (k + 1) < N - k ∧ k + 1 ≤ 1048576) := by
          have := HNN.out
          have := HN.out
          exact ⟨by omega, by omega, by omega⟩
        have hQI : ((⟨(quoteL vs[k]).toArray⟩ : ByteArray).size : Int) ≤ 11000000 := by
          have := Cb.Q_bound vs[k] hsz
          unfold Cb.Q at this
          omega
        generalize vs[k] = v at *
        generalize (⟨(quoteL v).toArray⟩ : ByteArray) = QB at *
        generalize cellsW (qWs (vs.take k)) = xs at *
        clear hlt hkl HLL HLS HTK HSZ hsz
        go_wp2_with fail
        refine QT.mono ?_; rintro e w2 ⟨rfl, hb2⟩
        have hrow2 := own40_below hrow hb2
        have hB2 := hB.trans (hb2.mono hB.size)
        have hBs2 := hB2.size
        have c0' := (hb2.cell (p := ⟨g, o + k, none⟩) hg).trans c0
        clear QT
        go_wp2_with (first | (at_builtin; refine wpList_append_own _ rfl _ _ 37 rfl w.heap.size 40 i0 _ 3 32 Tryd.underlying37 hi0 hz0 hz1 hz2 rfl (by decide) _ _ _ rfl (hrow2.alloc _) ⟨w2.heap.size, 0, none⟩ 1 1 (cells3 (v, true, 0)) rfl rfl (new3 w2 (v, true, 0) 40) (one3 (v, true, 0)) ?sa2 ?sb2 ?sc2 ?_; rotate_left 3; intro v3 w3 hown3 hgrow3 _))
        · obtain ⟨n1, n2, n3⟩ := HKN.out
          have hB3 := own3_grown (hrow2.alloc _) (hB2.alloc hB2.size _) (by simp; omega) hgrow3
          refine ⟨⟨k + 1, _, by go_num, rfl, n1, hL2I, HL2, hB3, ?_⟩, by simp only [intOf]; omega⟩
          rw [HCW.out]
          exact hown3
        case sa2 => unfold maxLen; have := HKN.out; omega
        case sb2 => have := HKN.out; omega
        case sc2 => simp; omega
      · have hge : ¬ (k : Int) < (N : Int) := by omega
        have hkN : k = N := by have := HK.out; omega
        rw [hkN, show vs.take N = vs by rw [← HN.out]; exact HTT.out] at hrow HLL
        have hrl : (qWs vs).length = N := by unfold qWs; rw [List.length_map]; exact HN.out
        rw [← hrl] at hrow
        obtain ⟨adw, capw, rfl, hWw, _⟩ := ws_of hrow
        rw [hrl]
        have HLB : Hid ((L ++ ⟨#[35]⟩ ++ com).data.toList = sep.data.toList ++ lnS sep.data.toList vs ++ 35 :: com.data.toList) := by
          show _ = _
          rw [app_list, app_list, HLL.out]
          simp
        have HZL : Hid (∀ b : ByteArray, b.data.toList = sep.data.toList ++ lnS sep.data.toList vs ++ 35 :: com.data.toList → (lineA true (qWs vs)).length ≤ b.size) := by
          intro b hb
          have h1 := line_len sep.data.toList HSP.out.ne vs
          have h2 := congrArg List.length hb
          rw [size_list, List.length_append, List.length_append] at h2
          omega
        have HWw := hide hWw
        clear HK HLL hrow hkN HLS HTK HTT HQ HSZ hrl hWw hlt
        have WD := HWD.out (L ++ ⟨#[35]⟩ ++ com) wr hB
        go_wp2_with fail
        generalize L ++ ⟨#[35]⟩ ++ com = LB at *
        obtain ⟨W1, W2, W3⟩ := words_line HSP.out.bl HSP.out.ne HLB.out
        have HZ2 := hide (HZL.out LB HLB.out)
        clear HLB HZL
        refine WD.mono ?_; rintro e w2 ⟨gv, rfl, hgr, hb2⟩
        have hB2 := hB.trans (hb2.mono hB.size)
        clear WD
        by_cases hbig : 4096 < LB.size
        · rw [W1 hbig] at hgr ⊢
          have hbI : (4096 : Int) < (LB.size : Int) := by omega
          obtain ⟨ag, cg, hv, _⟩ := ws_of (l := []) hgr
          simp only [List.length_nil] at hv
          subst hv
          clear W1 W2 W3 hgr hbig HZ2
          go_wp2
          go_ret
          exact ⟨rfl, hB2⟩
        have hbI : ¬ (4096 : Int) < (LB.size : Int) := by omega
        by_cases hmany : 64 < N
        · obtain ⟨p, hp, hp64⟩ := W2 hbig (by rw [HN.out]; exact hmany)
          rw [hp] at hgr ⊢
          have hmI : (64 : Int) < (N : Int) := by omega
          have hpI : (64 : Int) < (p : Int) := by omega
          obtain ⟨ag, cg, hv, _⟩ := ws_of (l := []) hgr
          simp only [List.length_nil] at hv
          subst hv
          clear W1 W2 W3 hgr hbig hmany HZ2
          go_wp2
          go_ret
          exact ⟨rfl, hB2⟩
        have hmI : ¬ (64 : Int) < (N : Int) := by omega
        have hvl : ¬ 64 < vs.length := by rw [HN.out]; exact hmany
        obtain ⟨l, hl, hgot⟩ := W3 hbig hvl
        rw [hl] at hgr ⊢
        obtain ⟨ag, cg, hv, hcl⟩ := got_cells hgr
        have hln : l.length = N := by rw [hgot.1]; exact HN.out
        simp only at hgr hv ⊢
        subst hv
        rw [hln]
        have HGC : Hid (∀ k (hk : k < vs.length), ∃ g, ag = some ⟨g, 0, none⟩ ∧ g < w2.heap.size ∧ w2.cell? ⟨g, k * 3, none⟩ = some (.string vs[k]) ∧ w2.cell? ⟨g, k * 3 + 1, none⟩ = some (.bool true)) := by
          intro k hk
          have hk' : k < l.length := by rw [hgot.1]; exact hk
          obtain ⟨g, h1, h2, h3, h4⟩ := hcl k hk'
          obtain ⟨e1, e2⟩ := hgot.2 k hk' hk
          rw [e1] at h3
          rw [e2] at h4
          exact ⟨g, h1, h2, h3, h4⟩
        have HJG := hide (join_quoted vs hvl)
        have HSH := hide (fun (b : ByteArray) (h : b.data.toList = lineA true (qWs vs)) (hb : ¬ 4096 < b.size) => words_short h hb hvl)
        have HV2 : Hid (Sv w2 ad vs) := HVV.out.below hB2 (Nat.le_refl _)
        have HW2 : Hid (Ws w2 adw (qWs vs)) := HWw.out.below hb2 (Nat.le_refl _)
        have HBG := hide hbig
        have hbN : N ≤ 64 := by omega
        clear W1 W2 W3 hgr hcl hgot hl HVV HWw hb2 hbig hmany hvl hln
        go_wp2_with fail
        go_loopw [15] (fun kv wr => ∃ (k : Nat), kv = .int .i64 (k : Int) ∧ k ≤ N ∧ ∃ n, wr = w2.drewN n) (fun kv _ => N - (intOf kv).toNat)
        case atStart => exact ⟨0, rfl, by omega, 0, rfl⟩
        case round =>
          obtain ⟨k, rfl, hk, n, rfl⟩ := hrel
          by_cases hlt : k < N
          · have hkl : k < vs.length := by rw [HN.out]; exact hlt
            obtain ⟨g, rfl, hg, c0, c1⟩ := HGC.out k hkl
            obtain ⟨g2, o2, rfl, hg2, d0⟩ := HV2.out k hkl
            have hltI : (k : Int) < (N : Int) := by omega
            generalize vs[k] = v at *
            have bs : (v.toList == v.toList) = true := by simp
            have c0' : (w2.drewN n).cell? ⟨g, k * 3, none⟩ = some (.string v) := c0
            have c1' : (w2.drewN n).cell? ⟨g, k * 3 + 1, none⟩ = some (.bool true) := c1
            have d0' : (w2.drewN n).cell? ⟨g2, o2 + k, none⟩ = some (.string v) := d0
            clear HGC HV2 HW2 HJG HSH HZ2 HJN HWD
            go_wp2_with fail
            go_quiet (fail)
            go_wp2
            exact ⟨⟨k + 1, by go_num, by omega, _, rfl⟩, by simp only [intOf]; omega⟩
          · have hge : ¬ (k : Int) < (N : Int) := by omega
            have hB3 : Below w.heap.size w (w2.drewN n) := below_drewN hB2 n
            have JN := HJN.out (w2.drewN n) hB3 adw capw (HW2.out.below (below_drewN (Below.refl _ w2) n) (Nat.le_refl _))
            have hsl := HZ2.out
            rw [HJG.out, if_neg (by have := HBG.out; omega)] at JN
            rw [show (qWs vs).length = N by unfold qWs; rw [List.length_map]; exact HN.out] at JN
            have hSB : (⟨(lineA true (qWs vs)).toArray⟩ : ByteArray).data.toList = lineA true (qWs vs) := by simp
            have hSz : (⟨(lineA true (qWs vs)).toArray⟩ : ByteArray).size = (lineA true (qWs vs)).length := by show (lineA true (qWs vs)).toArray.size = _; simp
            obtain ⟨l2, hl2, hgot2⟩ := HSH.out _ hSB (by have := HBG.out; omega)
            have hSI : ¬ (LB.size : Int) < ((⟨(lineA true (qWs vs)).toArray⟩ : ByteArray).size : Int) := by omega
            have WD2 := fun W hb => HWD.out ⟨(lineA true (qWs vs)).toArray⟩ W hb
            rw [hl2] at WD2
            have JN' : Calls Tryd.prog 28 #[.slice adw N capw] (w2.drewN n) fun e w' => e = .returned (.tuple #[.string ⟨(lineA true (qWs vs)).toArray⟩, .int .i64 0, .int .i64 0]) ∧ Below (w2.drewN n).heap.size (w2.drewN n) w' := JN
            have HWD2 := hide WD2
            generalize (⟨(lineA true (qWs vs)).toArray⟩ : ByteArray) = STB at *
            have HVV : Hid (Sv (w2.drewN n) ad vs) := HV2.out.below (below_drewN (Below.refl _ w2) n) (Nat.le_refl _)
            clear HGC HV2 HW2 HJG HSH HZ2 HJN HWD JN hSB hSz hl2 hsl WD2 HBG hlt
            generalize w2.drewN n = w4 at *
            go_wp2_with fail
            refine JN'.mono ?_; rintro e w5 ⟨rfl, hb5⟩
            have hB5 := hB3.trans (hb5.mono hB3.size)
            have WD3 := HWD2.out w5 hB5
            clear JN' HWD2
            go_wp2_with fail
            refine WD3.mono ?_; rintro e w6 ⟨gv, rfl, hgr, hb6⟩
            have hB6 := hB5.trans (hb6.mono hB5.size)
            obtain ⟨ag2, cg2, hv, hcl⟩ := got_cells hgr
            have hln : l2.length = N := by rw [hgot2.1]; exact HN.out
            simp only at hgr hv ⊢
            subst hv
            rw [hln]
            have HGC : Hid (∀ k (hk : k < vs.length), ∃ g, ag2 = some ⟨g, 0, none⟩ ∧ w6.cell? ⟨g, k * 3, none⟩ = some (.string vs[k])) := by
              intro k hk
              have hk' : k < l2.length := by rw [hgot2.1]; exact hk
              obtain ⟨g, h1, h2, h3, h4⟩ := hcl k hk'
              obtain ⟨e1, e2⟩ := hgot2.2 k hk' hk
              rw [e1] at h3
              exact ⟨g, h1, h3⟩
            have HV6 : Hid (Sv w6 ad vs) := (HVV.out.below hb5 (Nat.le_refl _)).below hb6 (Nat.le_refl _)
            clear hgr hcl hgot2 hln HVV WD3 hb5 hb6
            go_wp2_with fail
            go_loopw [22] (fun kv wr => ∃ (k : Nat), kv = .int .i64 (k : Int) ∧ k ≤ N ∧ ∃ n, wr = w6.drewN n) (fun kv _ => N - (intOf kv).toNat)
            case atStart => exact ⟨0, rfl, by omega, 0, rfl⟩
            case round =>
              obtain ⟨k, rfl, hk, n, rfl⟩ := hrel
              by_cases hlt : k < N
              · have hkl : k < vs.length := by rw [HN.out]; exact hlt
                obtain ⟨g, rfl, c0⟩ := HGC.out k hkl
                obtain ⟨g2, o2, rfl, hg2, d0⟩ := HV6.out k hkl
                have hltI : (k : Int) < (N : Int) := by omega
                generalize vs[k] = v at *
                have bs : (v.toList == v.toList) = true := by simp
                have c0' : (w6.drewN n).cell? ⟨g, k * 3, none⟩ = some (.string v) := c0
                have d0' : (w6.drewN n).cell? ⟨g2, o2 + k, none⟩ = some (.string v) := d0
                clear HGC HV6
                go_wp2_with fail
                go_quiet (fail)
                go_wp2
                exact ⟨⟨k + 1, by go_num, by omega, _, rfl⟩, by simp only [intOf]; omega⟩
              · have hge : ¬ (k : Int) < (N : Int) := by omega
                go_wp2
                go_ret
                exact ⟨rfl, below_drewN hB6 n⟩
end Go.Proofs.YtckjededijgjgaaDoor.Wo
namespace Go.Proofs.YtckjededijgjgaaDoor.Wo
open Go.ChangeShapes Go.WideShapes Go.ChangeAt Go.RowKit
open Go.Deep
open Go.Proofs.YtckjededijgjgaaDoor.Jn (cellsOf9)
set_option linter.unusedVariables false

section
variable {H : Type} {enc : TypeId × Value → H} {W : World}

theorem bulk_tot (D : Nat → DataW H) (f : Nat → ByteArray) : ∀ (l : List Nat), (∀ i ∈ l, Rows.uptoBulk (D i) = (f i).size + 1) → Rows.uptoBulkAll (l.map D) = tot (l.map f)
  | [], _ => by simp [Rows.uptoBulkAll, tot]
  | i :: l, h => by
    have := bulk_tot D f l (fun j hj => h j (by simp [hj]))
    rw [List.map_cons, List.map_cons, Rows.uptoBulkAll, this, h i (by simp)]
    simp [tot]

/-- texts that came in -/
theorem open_texts {v0 : Value} {d0 : DataW H} {p0 : List MemPlace} (h : DataW.Trod enc Tryd.prog W 0 (fun _ => true) true 34 v0 d0 p0) (hone : ∃ a len cap, v0 = .slice a len cap) :
    ∃ (vs : List ByteArray) (ad : Option Addr) (cap : Nat), v0 = .slice ad vs.length cap ∧ Sv W ad vs ∧ tot vs ≤ Rows.uptoBulk d0 := by
  obtain ⟨fuel, hf⟩ := h
  obtain ⟨a0, len0, cap0, rfl⟩ := hone
  have hf' : DataW.trod enc Tryd.prog W 0 (fun _ => true) true fuel 34 [.slice a0 len0 cap0] = some (d0, p0) := by simpa [Value.cells] using hf
  rcases open_slice1 Tryd.underlying34 cellsOf9 hf' with ⟨hcs, hx⟩ | ⟨a, len, cap, m, n, V, D, Pl, hcs, _, hl, hm, hmm, hx, hel⟩
  · simp only [List.cons.injEq, and_true] at hcs
    rw [hcs]
    exact ⟨[], _, _, rfl, fun k hk => by simp at hk, by simp [tot]⟩
  · simp only [List.cons.injEq, and_true] at hcs
    rw [hcs]
    simp only [Prod.mk.injEq] at hx
    have hml : m = cap := by rw [hmm]; simp
    have each : ∀ i, i < len → ∃ s : ByteArray, W.cell? (a.add i) = some (.string s) ∧ Rows.uptoBulk (D i) = s.size + 1 := by
      intro i hi
      obtain ⟨hc, ht⟩ := hel i (by omega)
      obtain ⟨t, e0, h0, _⟩ := DataW.trod_string Tryd.underlying9 ht
      have e : V i = .string t := by simpa using e0
      rw [e] at hc
      simp only [Prod.mk.injEq] at h0
      refine ⟨t, hc, ?_⟩
      rw [h0.1]
      simp only [Rows.uptoBulk, Array.length_toList, ByteArray.size_data]
    haveI : Inhabited ByteArray := ⟨⟨#[]⟩⟩
    obtain ⟨f, hf2⟩ := choose_lt (α := ByteArray) each
    have htot : tot ((List.range len).map f) ≤ Rows.uptoBulk d0 := by
      rw [hx.1]
      simp only [Rows.uptoBulk]
      rw [bulk_tot D f (List.range len) (fun i hi => (hf2 i (by simpa using hi)).2)]
      omega
    by_cases h0 : len = 0
    · subst h0
      exact ⟨[], _, _, rfl, fun k hk => by simp at hk, by simp [tot]⟩
    · have hsp : a.spot = none := by
        have h1 := (hf2 0 (by omega)).1
        have e : a.add 0 = a := by simp [Addr.add]
        rw [e] at h1
        unfold World.cell? at h1
        split at h1
        · split at h1
          · cases h1
          · rename_i h; simpa using h
        · cases h1
      obtain ⟨ab, ao, sp⟩ := a
      simp only at hsp
      subst hsp
      refine ⟨(List.range len).map f, _, _, by rw [List.length_map, List.length_range], fun i hi => ?_, htot⟩
      have hi' : i < len := by simpa using hi
      have hc := (hf2 i hi').1
      rw [Pc.addP] at hc
      have e : ((List.range len).map f)[i] = f i := by simp
      rw [e]
      exact ⟨ab, ao, rfl, World.block_lt_of_cell? W _ hc, hc⟩
end
end Go.Proofs.YtckjededijgjgaaDoor.Wo
