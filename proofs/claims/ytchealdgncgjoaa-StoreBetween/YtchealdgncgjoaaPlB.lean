import Derived.Test.YtchealdgncgjoaaPlA
namespace Go.Proofs.Ytchealdgncgjoaa.StS
open Go.RowKit Go.Proofs.Ytchealdgncgjoaa.St
set_option linter.unusedVariables false

/-- words that can be read at a slice -/
def Wd (W : World) (v : Value) (S : List ByteArray) : Prop := ∃ ad cap, v = .slice ad S.length cap ∧ ∀ i s, S[i]? = some s → ∃ b off, ad = some ⟨b, off, none⟩ ∧ W.cell? ⟨b, off + i, none⟩ = some (.string s)
theorem cell_nu {w w' : World} {a : Addr} {u : Value} (h : w.cell? a = some u) (k : Kp Nu w w') : w'.cell? a = some u := by
  have hl := World.block_lt_of_cell? w _ h
  have := k.block a.block hl (fun h => h)
  unfold World.cell? at h ⊢
  rw [this]; exact h

section
variable {W : World} {mb : Nat} {t : T (ByteArray × Int)}
theorem put_p {S : List ByteArray} {i : Nat} {s : ByteArray} (h : Mp W mb t) (ha : Va S i t) (hb : ∀ k x, k < i → S[k]? = some x → ∃ p ∈ t.xs, p.1 = x) (hs : S[i]? = some s) (hsz : t.sz ≤ i) (hi : i < 2 ^ 60) :
    Calls Try.prog 26 #[.pointer (some ⟨mb, 0, none⟩), .string s, .int .i64 (i : Int)] W fun e w' => ∃ u, e = .returned (.tuple #[u, .bool (!(fr S s i))]) ∧ ∃ t', Mp w' mb t' ∧ Va S (i + 1) t' ∧ (∀ k x, k < i + 1 → S[k]? = some x → ∃ p ∈ t'.xs, p.1 = x) ∧ t'.sz ≤ i + 1 ∧ (s, (i : Int)) ∈ t'.xs ∧ Kp (fun j => j = mb) W w' := by
  refine (put_any h s (i : Int) (by omega)).mono ?_
  rintro e w' ⟨e1, e2, e3⟩
  have hm := put_mem h.srt s (i : Int)
  have hhas : (T.fd (sd s) t).2 = !(fr S s i) := by
    cases hf : fr S s i with
    | false =>
      obtain ⟨k, hk, hx⟩ := (fr_iff S s i).1 hf
      obtain ⟨p, hp, hq⟩ := hb k s hk hx
      exact (has_iff h.srt s).2 ⟨p, hp, hq⟩
    | true =>
      cases hh : (T.fd (sd s) t).2 with
      | false => rfl
      | true =>
        obtain ⟨p, hp, hq⟩ := (has_iff h.srt s).1 hh
        obtain ⟨v, e1, e2, e3⟩ := ha p hp
        have := (fr_iff S s i).2 ⟨v, e2, by rw [← hq]; exact e3⟩
        rw [this] at hf; cases hf
  rw [hhas] at e1
  refine ⟨_, e1, _, e2, ?_, ?_, ?_, (hm _).2 (.inl rfl), e3⟩
  · intro q hq
    rcases (hm q).1 hq with rfl | ⟨hq, _⟩
    · exact ⟨i, rfl, by omega, hs⟩
    · obtain ⟨v, a1, a2, a3⟩ := ha q hq
      exact ⟨v, a1, by omega, a3⟩
  · intro k x hk hx
    by_cases hks : x = s
    · exact ⟨(s, (i : Int)), (hm _).2 (.inl rfl), hks.symm⟩
    · have hki : k < i := by
        rcases Nat.lt_or_ge k i with h | h
        · exact h
        · have : k = i := by omega
          subst this
          rw [hs] at hx; exact (hks (Option.some.inj hx).symm).elim
      obtain ⟨p, hp, hq⟩ := hb k x hki hx
      exact ⟨p, (hm _).2 (.inr ⟨hp, by rw [hq]; exact hks⟩), hq⟩
  · rw [put_sz]; split <;> omega
theorem get_some (h : Mp W mb t) (hs : t.sz < 2 ^ 61) {p : ByteArray × Int} (hp : p ∈ t.xs) :
    Calls Try.prog 27 #[.pointer (some ⟨mb, 0, none⟩), .string p.1] W fun e w' => e = .returned (.tuple #[.int .i64 p.2, .bool true]) ∧ Kp Nu W w' := by
  refine (get_any h p.1 (by omega)).mono ?_
  rintro e w' ⟨e1, e2⟩
  obtain ⟨g1, g2⟩ := get_mem h.srt hp
  rw [g1, g2] at e1
  exact ⟨e1, e2⟩
theorem get_none (h : Mp W mb t) (hs : t.sz < 2 ^ 61) {k : ByteArray} (hk : ¬ ∃ p ∈ t.xs, p.1 = k) :
    Calls Try.prog 27 #[.pointer (some ⟨mb, 0, none⟩), .string k] W fun e w' => e = .returned (.tuple #[.int .i64 0, .bool false]) ∧ Kp Nu W w' := by
  refine (get_any h k (by omega)).mono ?_
  rintro e w' ⟨e1, e2⟩
  have hb : (T.fd (sd k) t).2 = false := by
    cases hh : (T.fd (sd k) t).2 with
    | false => rfl
    | true => exact (hk ((has_iff h.srt k).1 hh)).elim
  have hg : getT k t = none := by unfold getT; rw [hb]; rfl
  rw [hb, hg] at e1
  exact ⟨e1, e2⟩
theorem del_p {S O : List ByteArray} {j : Nat} {o : ByteArray} (h : Mp W mb t) (ha : Va S S.length t) (hc : ∀ x ∈ S, (∃ p ∈ t.xs, p.1 = x) ∨ x ∈ O.take j) (ho : O[j]? = some o) (hs : t.sz < 2 ^ 60) :
    Calls Try.prog 28 #[.pointer (some ⟨mb, 0, none⟩), .string o] W fun e w' => ∃ u b, e = .returned (.tuple #[u, .bool b]) ∧ ∃ t', Mp w' mb t' ∧ Va S S.length t' ∧ (∀ x ∈ S, (∃ p ∈ t'.xs, p.1 = x) ∨ x ∈ O.take (j + 1)) ∧ t'.sz < 2 ^ 60 ∧ (¬ ∃ p ∈ t'.xs, p.1 = o) ∧ Kp (fun j => j = mb) W w' := by
  refine (del_any h o (by omega)).mono ?_
  rintro e w' ⟨e1, e2, e3⟩
  have hm := del_mem h.srt o
  refine ⟨_, _, e1, _, e2, fun q hq => ha q ((hm q).1 hq).1, ?_, ?_, ?_, e3⟩
  · intro x hx
    by_cases hxo : x = o
    · refine .inr ?_
      rw [List.take_add_one, ho, hxo]; simp
    · rcases hc x hx with ⟨p, hp, hq⟩ | hq
      · exact .inl ⟨p, (hm p).2 ⟨hp, by rw [hq]; exact hxo⟩, hq⟩
      · exact .inr (by rw [List.take_add_one]; simp [hq])
  · rw [del_sz]; split <;> omega
  · rintro ⟨p, hp, hq⟩
    exact ((hm p).1 hp).2 hq
theorem at_p (h : Mp W mb t) (hs : t.sz < 2 ^ 60) {i : Nat} {p : ByteArray × Int} (hp : t.xs[i]? = some p) :
    Calls Try.prog 30 #[.pointer (some ⟨mb, 0, none⟩), .int .i64 (i : Int)] W fun e w' => e = .returned (.tuple #[.string p.1, .int .i64 p.2, .bool true]) ∧ Kp Nu W w' := by
  have hi : i < t.sz := by rw [← T.xs_length]; exact (List.getElem?_eq_some_iff.1 hp).1
  refine (At_any h (i : Int) (by omega) (by omega)).mono ?_
  rintro e w' ⟨e1, e2⟩
  rw [atT_xs, hp] at e1
  exact ⟨e1, e2⟩
theorem floor_p (h : Mp W mb t) (hs : t.sz < 2 ^ 60) {i : Nat} {p : ByteArray × Int} (hp : t.xs[i]? = some p) :
    Calls Try.prog 31 #[.pointer (some ⟨mb, 0, none⟩), .string p.1] W fun e w' => e = .returned (.tuple #[.string p.1, .int .i64 p.2, .bool true]) ∧ Kp Nu W w' := by
  refine (floor_any h p.1 (by omega)).mono ?_
  rintro e w' ⟨e1, e2⟩
  have : floorT p.1 t = some p := by unfold floorT; rw [place_of h.srt hp]; simp only [if_true]; rw [atT_xs, hp]
  rw [this] at e1
  exact ⟨e1, e2⟩
theorem ceil_p (h : Mp W mb t) (hs : t.sz < 2 ^ 60) {i : Nat} {p : ByteArray × Int} (hp : t.xs[i]? = some p) :
    Calls Try.prog 32 #[.pointer (some ⟨mb, 0, none⟩), .string p.1] W fun e w' => e = .returned (.tuple #[.string p.1, .int .i64 p.2, .bool true]) ∧ Kp Nu W w' := by
  refine (ceil_any h p.1 (by omega)).mono ?_
  rintro e w' ⟨e1, e2⟩
  have : ceilT p.1 t = some p := by unfold ceilT; rw [place_of h.srt hp]; simp only []; rw [atT_xs, hp]
  rw [this] at e1
  exact ⟨e1, e2⟩
theorem rank_p (h : Mp W mb t) (hs : t.sz < 2 ^ 60) {i : Nat} {p : ByteArray × Int} (hp : t.xs[i]? = some p) :
    Calls Try.prog 33 #[.pointer (some ⟨mb, 0, none⟩), .string p.1] W fun e w' => e = .returned (.int .i64 (i : Int)) ∧ Kp Nu W w' := by
  refine (rank_any h p.1 (by omega)).mono ?_
  rintro e w' ⟨e1, e2⟩
  rw [place_of h.srt hp] at e1
  exact ⟨e1, e2⟩
end
theorem lt_ms {k h : Nat} (x : Int) (hx : x = ((k + 1 : Nat) : Int)) (hm : k < h) : h - (intOf (.int .i64 x)).toNat < h - (intOf (.int .i64 (k : Int))).toNat := by
  subst hx
  show h - (k + 1) < h - k
  omega
/-- holds: is the word in the list? -/
def hold (O : List ByteArray) (s : ByteArray) (j : Nat) : Prop := ∃ k, k < j ∧ O[k]? = some s
set_option maxRecDepth 100000 in
set_option maxHeartbeats 1000000 in
theorem holds_yes (W : World) {O : List ByteArray} {ad : Option Addr} {cap : Nat} (hl : (O.length : Int) < 2 ^ 60) (hw : ∀ i s, O[i]? = some s → ∃ b off, ad = some ⟨b, off, none⟩ ∧ W.cell? ⟨b, off + i, none⟩ = some (.string s)) (s : ByteArray) (hs : s ∈ O) :
    Calls Try.prog 34 #[.slice ad O.length cap, .string s] W fun e w' => e = .returned (.bool true) ∧ w' = W := by
  have HW := hide hw
  have HL := hide hl
  have HS := hide hs
  obtain ⟨N, hN⟩ : ∃ N, O.length = N := ⟨_, rfl⟩
  have HN := hide hN
  rw [hN]
  clear hw hl hs hN
  go_enter Try.func34, Try.ntmps34
  go_wp2_with fail
  go_loopw [5] (fun i wr => ∃ j : Nat, i = .int .i64 (j : Int) ∧ j ≤ N ∧ wr = W ∧ Hid (∀ k, k < j → O[k]? ≠ some s)) (fun i _ => N - (intOf i).toNat)
  case atStart => exact ⟨0, rfl, Nat.zero_le _, rfl, fun k hk => by omega⟩
  case round =>
    obtain ⟨j, rfl, hj, hwr, hno⟩ := hrel
    subst hwr
    have hl := HL.out
    rw [HN.out] at hl
    by_cases hlt : j < N
    · obtain ⟨x, hx⟩ : ∃ x, O[j]? = some x := ⟨_, List.getElem?_eq_getElem (by rw [HN.out]; exact hlt)⟩
      obtain ⟨b, off, rfl, hc⟩ := HW.out j x hx
      have hltI : (j : Int) < (N : Int) := by omega
      have hj0 : (0 : Int) ≤ (j : Int) := by omega
      by_cases he : x = s
      · subst he
        have hbq : (x.toList == x.toList) = true := tl_beq.2 rfl
        clear HW HL HS HN hno hl hj hlt
        go_wp2_with fail
        go_ret
        exact ⟨rfl, rfl⟩
      · have hbq : (x.toList == s.toList) = false := by
          cases hh : (x.toList == s.toList) with
          | false => rfl
          | true => exact (he (tl_beq.1 hh)).elim
        have HA : Hid ((j : Int) + 1 = ((j + 1 : Nat) : Int) ∧ wrap64 ((j : Int) + 1) = ((j + 1 : Nat) : Int)) := ⟨by omega, by unfold wrap64; omega⟩
        have HM : Hid (j + 1 ≤ N ∧ (∀ k, k < j + 1 → O[k]? ≠ some s) ∧ N - (j + 1) < N - j) := ⟨by omega, fun k hk => by
          rcases Nat.lt_or_ge k j with h | h
          · exact hno.out k h
          · have : k = j := by omega
            subst this; rw [hx]; exact fun e => he (Option.some.inj e), by omega⟩
        clear HW HL HS HN hno hl hj hlt
        go_wp2_with fail
        go_roundw
        case rel => exact ⟨j + 1, by first | exact congrArg (Value.int .i64) HA.out.1 | exact congrArg (Value.int .i64) HA.out.2, HM.out.1, by first | rfl | trivial, HM.out.2.1⟩
        case measure => first | exact lt_ms _ HA.out.1 HM.out.1 | exact lt_ms _ HA.out.2 HM.out.1
    · obtain rfl : j = N := by omega
      obtain ⟨k, hk⟩ := List.mem_iff_getElem?.1 HS.out
      have hlt := (List.getElem?_eq_some_iff.1 hk).1
      exact (hno.out k (by rw [← HN.out]; exact hlt) hk).elim
end Go.Proofs.Ytchealdgncgjoaa.StS
