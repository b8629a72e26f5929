import Derived.Shelf.LaysM
import Derived.Shelf.Strconv.AppendInt10
import Derived.Test.YtffcnonhhfhlhaaDoorProg
import Derived.Test.YtffcnonhhfhlhaaDoorRrA
import Derived.Test.YtffcnonhhfhlhaaDoorLdG
namespace Go.Proofs
open Go.Shelf
def Tryd.laysM288_ren : Go.Shelf.Ren := ⟨fun | 288 => 89 | 283 => 107 | 284 => 108 | 285 => 109 | 286 => 110 | 129 => 99 | 317 => 121 | 318 => 122 | 319 => 123 | 320 => 124 | 337 => 131 | 338 => 132 | n => n, fun | 37 => 100 | 53 => 23 | 3 => 3 | 4 => 4 | 9 => 9 | 171 => 163 | 0 => 0 | 173 => 165 | 212 => 175 | 51 => 153 | 5 => 5 | 20 => 20 | 213 => 176 | 46 => 131 | 232 => 188 | 233 => 189 | n => n, fun | 17 => 0 | 18 => 4 | 19 => 5 | n => n⟩
theorem Tryd.laysM288 : Go.Proofs.LaysM.n288 Tryd.prog Tryd.laysM288_ren := {
  mixed := by kernel_rfl
  f129 := Tryd.func99.trans (congrArg some (by kernel_rfl))
  f283 := Tryd.func107.trans (congrArg some (by kernel_rfl))
  f284 := Tryd.func108.trans (congrArg some (by kernel_rfl))
  f285 := Tryd.func109.trans (congrArg some (by kernel_rfl))
  f286 := Tryd.func110.trans (congrArg some (by kernel_rfl))
  f288 := Tryd.func89.trans (congrArg some (by kernel_rfl))
  f317 := Tryd.func121.trans (congrArg some (by kernel_rfl))
  f318 := Tryd.func122.trans (congrArg some (by kernel_rfl))
  f319 := Tryd.func123.trans (congrArg some (by kernel_rfl))
  f320 := Tryd.func124.trans (congrArg some (by kernel_rfl))
  f337 := Tryd.func131.trans (congrArg some (by kernel_rfl))
  f338 := Tryd.func132.trans (congrArg some (by kernel_rfl))
  t0 := Tryd.underlying0
  a0 := Tryd.isAgg0
  z0 := Tryd.sizeOf0
  v0 := Tryd.zeroValue0
  t3 := Tryd.underlying3
  a3 := Tryd.isAgg3
  z3 := Tryd.sizeOf3
  v3 := Tryd.zeroValue3
  t4 := Tryd.underlying4
  a4 := Tryd.isAgg4
  z4 := Tryd.sizeOf4
  v4 := Tryd.zeroValue4
  t5 := Tryd.underlying5
  a5 := Tryd.isAgg5
  z5 := Tryd.sizeOf5
  v5 := Tryd.zeroValue5
  t9 := Tryd.underlying9
  a9 := Tryd.isAgg9
  z9 := Tryd.sizeOf9
  v9 := Tryd.zeroValue9
  t20 := Tryd.underlying20
  a20 := Tryd.isAgg20
  z20 := Tryd.sizeOf20
  v20 := Tryd.zeroValue20
  t37 := Tryd.underlying100
  a37 := Tryd.isAgg100
  z37 := Tryd.sizeOf100
  v37 := Tryd.zeroValue100
  t46 := Tryd.underlying131
  a46 := Tryd.isAgg131
  z46 := Tryd.sizeOf131
  v46 := Tryd.zeroValue131
  t51 := Tryd.underlying153
  a51 := Tryd.isAgg153
  z51 := Tryd.sizeOf153
  v51 := Tryd.zeroValue153
  t53 := Tryd.underlying23
  a53 := Tryd.isAgg23
  z53 := Tryd.sizeOf23
  v53 := Tryd.zeroValue23
  t171 := Tryd.underlying163
  a171 := Tryd.isAgg163
  z171 := Tryd.sizeOf163
  v171 := Tryd.zeroValue163
  t173 := Tryd.underlying165
  a173 := Tryd.isAgg165
  z173 := Tryd.sizeOf165
  v173 := Tryd.zeroValue165
  t212 := Tryd.underlying175
  a212 := Tryd.isAgg175
  z212 := Tryd.sizeOf175
  v212 := Tryd.zeroValue175
  t213 := Tryd.underlying176
  a213 := Tryd.isAgg176
  z213 := Tryd.sizeOf176
  t232 := Tryd.underlying188
  a232 := Tryd.isAgg188
  z232 := Tryd.sizeOf188
  v232 := Tryd.zeroValue188
  t233 := Tryd.underlying189
  a233 := Tryd.isAgg189
  z233 := Tryd.sizeOf189
  v233 := Tryd.zeroValue189
  g17 := by kernel_rfl
  g18 := by kernel_rfl
  g19 := by kernel_rfl
  i0 := by kernel_rfl
  i3 := by kernel_rfl
  i4 := by kernel_rfl
  i5 := by kernel_rfl
  i9 := by kernel_rfl
  i20 := by kernel_rfl
  i37 := by kernel_rfl
  i46 := by kernel_rfl
  i51 := by kernel_rfl
  i53 := by kernel_rfl
  i171 := by kernel_rfl
  i173 := by kernel_rfl
  i212 := by kernel_rfl
  i232 := by kernel_rfl
  i233 := by kernel_rfl
  m17 := by kernel_rfl
  m18 := by kernel_rfl
  m19 := by kernel_rfl }
open Go.RowKit Go.Sort Go.Lib in
theorem Tryd.internal_strconv_AppendUint_10 (B n u : Nat) (hu64 : u < 18446744073709551616) (sv : Value) (xs : List Value) (w : World) (hown : w.ownsRow B 5 1 sv n xs) (hBw : B ≤ w.heap.size) (hlim : n + 20 ≤ 140737488355328) (htab : Lib.TabIs Tryd.prog w "internal/strconv.uint64pow10" .u64 Lib.pow10Tab) :
    Calls Tryd.prog 89 #[sv, .int .u64 u, .int .i64 10] w fun e w' => ∃ v', e = .returned v' ∧ w'.ownsRow B 5 1 v' (n + (Lib.decDigits u).length) (xs ++ Lib.byteCells (Lib.decDigits u)) ∧ Below B w w' ∧ Lib.OthersKept 5 none w w' := Any.internal_strconv_AppendUint_10 Tryd.laysM288 B n u hu64 sv xs w hown hBw hlim htab
end Go.Proofs
namespace Go.Proofs.YtffcnonhhfhlhaaDoor.Ws
open Go.RowKit Go.Shelf
open Go.Proofs.YtffcnonhhfhlhaaDoor.Rg (Kp Nu Sg cells lays Frs Lrs)
set_option linter.unusedVariables false
/-- the document's Read: the words told ahead of place i -/
structure Rst (l : List UInt8) (pre : List (List UInt8)) (i : Nat) : Prop where
  le : off pre ≤ i
  sp : i ≤ l.length → spl 32 l = pre ++ spl 32 (l.drop (off pre))
  ns : ∀ j, off pre ≤ j → j < i → ∀ c, l[j]? = some c → c ≠ 32
  fin : l.length < i → pre = spl 32 l
theorem Rst.start (l : List UInt8) : Rst l [] 0 := ⟨Nat.le_refl _, fun _ => rfl, fun j _ h => by omega, fun h => by omega⟩
theorem Rst.next {l : List UInt8} {pre : List (List UInt8)} {i : Nat} {c : UInt8} (h : Rst l pre i) (hc : l[i]? = some c) (hn : c ≠ 32) : Rst l pre (i + 1) := by
  have hi := (List.getElem?_eq_some_iff.1 hc).1
  have := h.le
  refine ⟨by omega, fun _ => h.sp (by omega), fun j h1 h2 d hd => ?_, fun h2 => by omega⟩
  by_cases e : j = i
  · subst e; rw [hc] at hd; cases hd; exact hn
  · exact h.ns j h1 (by omega) d hd
/-- the word that ends at place i -/
def wrdA (l : List UInt8) (pre : List (List UInt8)) (i : Nat) : List UInt8 := (l.drop (off pre)).take (i - off pre)
theorem wrdA_ne {l : List UInt8} {pre : List (List UInt8)} {i : Nat} (h : Rst l pre i) : ∀ x ∈ wrdA l pre i, x ≠ 32 := fun x hx => by
  obtain ⟨j, hj⟩ := List.getElem?_of_mem hx
  unfold wrdA at hj
  rw [List.getElem?_take] at hj
  split at hj
  · rw [List.getElem?_drop] at hj
    exact h.ns (off pre + j) (by omega) (by omega) x hj
  · cases hj
theorem wrdA_len {l : List UInt8} {pre : List (List UInt8)} {i : Nat} (h : Rst l pre i) (hi : i ≤ l.length) : (wrdA l pre i).length = i - off pre := by
  unfold wrdA
  rw [List.length_take, List.length_drop]
  have := h.le
  omega
theorem spl_none' {l : List UInt8} (h : ∀ x ∈ l, x ≠ 32) : spl 32 l = [l] := by
  rw [spl_cut, cut_not h]
theorem spl_some' {a r : List UInt8} (h : ∀ x ∈ a, x ≠ 32) : spl 32 (a ++ 32 :: r) = a :: spl 32 r := by
  rw [spl_cut, cut_app r h]
/-- a word ends at a blank -/
theorem Rst.blank {l : List UInt8} {pre : List (List UInt8)} {i : Nat} (h : Rst l pre i) (hc : l[i]? = some 32) : Rst l (pre ++ [wrdA l pre i]) (i + 1) ∧ pre ++ [wrdA l pre i] <+: spl 32 l ∧ off (pre ++ [wrdA l pre i]) = i + 1 := by
  have hi := (List.getElem?_eq_some_iff.1 hc).1
  have hle := h.le
  have hwl := wrdA_len h (by omega)
  have hne := wrdA_ne h
  have ho : off (pre ++ [wrdA l pre i]) = i + 1 := by rw [off_app]; simp only [off]; omega
  have e : l.drop (off pre) = wrdA l pre i ++ 32 :: l.drop (i + 1) := by
    have h1 := drop_split (l := l) hle
    have h2 : l.drop i = 32 :: l.drop (i + 1) := by rw [List.drop_eq_getElem_cons hi, (List.getElem?_eq_some_iff.1 hc).2]
    rw [h2] at h1
    exact h1
  have hs := h.sp (by omega)
  rw [e, spl_some' hne] at hs
  have hs2 : spl 32 l = (pre ++ [wrdA l pre i]) ++ spl 32 (l.drop (i + 1)) := by rw [hs]; simp
  refine ⟨⟨by omega, fun _ => by rw [ho]; exact hs2, fun j h1 h2 => by omega, fun h2 => by omega⟩, ⟨_, hs2.symm⟩, ho⟩
/-- the last word -/
theorem Rst.last {l : List UInt8} {pre : List (List UInt8)} {i : Nat} (h : Rst l pre i) (hi : i = l.length) : Rst l (pre ++ [wrdA l pre i]) (i + 1) ∧ pre ++ [wrdA l pre i] <+: spl 32 l ∧ off (pre ++ [wrdA l pre i]) = i + 1 := by
  have hle := h.le
  have hwl := wrdA_len h (by omega)
  have hne := wrdA_ne h
  have ho : off (pre ++ [wrdA l pre i]) = i + 1 := by rw [off_app]; simp only [off]; omega
  have e : l.drop (off pre) = wrdA l pre i := by
    unfold wrdA
    rw [List.take_of_length_le]
    rw [List.length_drop]; omega
  have hs := h.sp (by omega)
  rw [e, spl_none' hne] at hs
  refine ⟨⟨by omega, fun h2 => by omega, fun j h1 h2 => by omega, fun _ => hs.symm⟩, by rw [hs]; exact List.prefix_refl _, ho⟩
/-- what the document's Read answers -/
def RfR (w w' : World) (lim : Int) (l : List UInt8) (L : Int) (v : Value) (at_ c : Int) : Prop :=
  (¬ (1 ≤ lim ∧ lim ≤ 8192) ∧ at_ = 0 ∧ c = 63) ∨
  ((1 ≤ lim ∧ lim ≤ 8192) ∧ ∃ pre x, pre ++ [x] <+: spl 32 l ∧ (∀ y ∈ pre, segF y ≠ none) ∧ segF x = none ∧ at_ = (off pre : Int) ∧ c = 64) ∨
  ((1 ≤ lim ∧ lim ≤ 8192) ∧ ∃ S p f, Pok S (spl 32 l) ∧ Frs S p f ∧
    ((f ≠ 0 ∧ c = f ∧ ∃ k : Nat, p = (k : Int) ∧ ((k < S.length ∧ at_ = (off ((spl 32 l).take k) : Int)) ∨ (k = S.length ∧ at_ = (l.length : Int)))) ∨
     (f = 0 ∧ lim < ((lays [] S).length : Int) ∧ c = 61 ∧ at_ = (l.length : Int)) ∨
     (f = 0 ∧ ((lays [] S).length : Int) ≤ lim ∧ c = 0 ∧ at_ = 0 ∧ L = lim ∧ w'.ownsRow w.heap.size 26 3 v (lays [] S).length (cells (lays [] S)))))
/-- the place of the fault is one -/
theorem pos_same {w w' : World} {lim : Int} {M : List Sg} {p : Value} {i c p' f : Int} (h : Lrs w w' lim M p i c) (g : Frs M p' f) (hf : f ≠ 0) : i = p' := by
  rcases h with ⟨_, k, s, h1, h2, h3, h4, h5⟩ | ⟨_, h1, h5, h2⟩ | ⟨h0, _, h1, h2, h3, _⟩
  · have hk : k < M.length := (List.getElem?_eq_some_iff.1 h2).1
    rcases g with ⟨k', s', g1, g2, g3, g4, g5⟩ | ⟨g1, _⟩ | ⟨_, g1, _⟩
    · have hk' : k' < M.length := (List.getElem?_eq_some_iff.1 g2).1
      have e : k = k' := by
        rcases Nat.lt_trichotomy k k' with l | l | l
        · exact (Rg.lok_no g1 l h2 (by rw [h3]; exact h4)).elim
        · exact l
        · exact (Rg.lok_no h1 l g2 (by rw [g3]; exact g4)).elim
      rw [h5, g5, e]
    · exact (Rg.lok_no g1 hk h2 (by rw [h3]; exact h4)).elim
    · exact (Rg.lok_no g1 hk h2 (by rw [h3]; exact h4)).elim
  · rcases g with ⟨k', s', g1, g2, g3, g4, _⟩ | ⟨g1, g2, g3, g4⟩ | ⟨g0, g1, g2, _⟩
    · exact (Rg.lok_no h1 (List.getElem?_eq_some_iff.1 g2).1 g2 (by rw [g3]; exact g4)).elim
    · rw [h5, g4]
    · exact absurd g0 hf
  · rcases g with ⟨k', s', g1, g2, g3, g4, _⟩ | ⟨g1, g2, g3, _⟩ | ⟨g0, g1, g2, _⟩
    · exact (Rg.lok_no h1 (List.getElem?_eq_some_iff.1 g2).1 g2 (by rw [g3]; exact g4)).elim
    · rw [g3] at h2; cases h2
    · exact absurd g0 hf
/-- the first bad word is one -/
theorem bad_same {X : List (List UInt8)} {a b : List (List UInt8)} {x y : List UInt8} (ha : a ++ [x] <+: X) (hb : b ++ [y] <+: X) (ga : ∀ z ∈ a, segF z ≠ none) (gb : ∀ z ∈ b, segF z ≠ none) (hx : segF x = none) (hy : segF y = none) : a = b := by
  have key : ∀ {a b : List (List UInt8)} {x y : List UInt8}, a ++ [x] <+: X → b ++ [y] <+: X → (∀ z ∈ b, segF z ≠ none) → segF x = none → ¬ a.length < b.length := by
    intro a b x y ha hb gb hx hlt
    have h1 : X[a.length]? = some x := by obtain ⟨t, e⟩ := ha; rw [← e]; simp
    have h2 : X[a.length]? = b[a.length]? := by obtain ⟨t, e⟩ := hb; rw [← e]; rw [List.append_assoc, List.getElem?_append_left hlt]
    rw [h2] at h1
    exact gb x (List.mem_of_getElem? h1) hx
  have hl : a.length = b.length := by
    have := key ha hb gb hx
    have := key hb ha ga hy
    omega
  obtain ⟨t, e⟩ := ha
  obtain ⟨t', e'⟩ := hb
  have h := e.trans e'.symm
  rw [List.append_assoc, List.append_assoc] at h
  exact (List.append_inj h hl).1
/-- both Reads answer the same -/
theorem reads_same {w w' V V' : World} {lim : Int} {l : List UInt8} {p v : Value} {at_ c L at' c' : Int} (h : RdR w w' lim l p at_ c) (g : RfR V V' lim l L v at' c') :
    at_ = at' ∧ c = c' ∧ ((c ≠ 0 ∧ p = .pointer none) ∨ (c = 0 ∧ ∃ b B u M, p = .pointer (some ⟨b, 0, none⟩) ∧ Rg.Tb B w' b lim u M ∧ L = lim ∧ V'.ownsRow V.heap.size 26 3 v M.length (cells M))) := by
  rcases h with ⟨h0, h1, h2, h3⟩ | ⟨h0, pre, x, h1, h2, h3, h4, h5, h6⟩ | ⟨h0, S, i, w0, h1, _, h3, h4⟩
  · rcases g with ⟨_, g1, g2⟩ | ⟨g0, _⟩ | ⟨g0, _⟩
    · exact ⟨by rw [h2, g1], by rw [h3, g2], .inl ⟨by rw [h3]; decide, h1⟩⟩
    · exact absurd g0 h0
    · exact absurd g0 h0
  · rcases g with ⟨g0, _⟩ | ⟨_, pre', x', g1, g2, g3, g4, g5⟩ | ⟨_, S', p', f, g1, _⟩
    · exact absurd h0 g0
    · have e := bad_same h1 g1 h2 g2 h3 g3
      exact ⟨by rw [h5, g4, e], by rw [h6, g5], .inl ⟨by rw [h6]; decide, h4⟩⟩
    · exfalso
      have hm : x ∈ spl 32 l := h1.subset (by simp)
      have : segF x ∈ (spl 32 l).map segF := List.mem_map.2 ⟨x, hm, rfl⟩
      rw [← g1] at this
      obtain ⟨y, _, hy⟩ := List.mem_map.1 this
      rw [h3] at hy; cases hy
  · rcases g with ⟨g0, _⟩ | ⟨_, pre', x', g1, g2, g3, g4, g5⟩ | ⟨_, S', p', f, g1, g2, g3⟩
    · exact absurd h0 g0
    · exfalso
      have hm : x' ∈ spl 32 l := g1.subset (by simp)
      have : segF x' ∈ (spl 32 l).map segF := List.mem_map.2 ⟨x', hm, rfl⟩
      rw [← h1] at this
      obtain ⟨y, _, hy⟩ := List.mem_map.1 this
      rw [g3] at hy; cases hy
    · have eS : S = S' := map_some_inj (h1.trans g1.symm)
      subst eS
      have hc := Rg.code_same h3 g2
      unfold Rg.refC at hc
      rcases g3 with ⟨k0, k1, k, k2, k3⟩ | ⟨k0, k1, k2, k3⟩ | ⟨k0, k1, k2, k3, k4, k5⟩
      · rw [if_pos k0] at hc
        have hi := pos_same h3 g2 k0
        have hp : p = .pointer none := by
          rcases lrs_cases h3 with ⟨_, h, _⟩ | ⟨h, _⟩
          · exact h
          · exact absurd (hc.symm.trans h) k0
        refine ⟨?_, by rw [hc, k1], .inl ⟨by rw [hc]; exact k0, hp⟩⟩
        rcases h4 with ⟨h, _⟩ | ⟨_, h5, h6⟩ | ⟨_, k', h5, h6, h7⟩
        · exact absurd (hc.symm.trans h) k0
        · rcases k3 with ⟨k4, k5⟩ | ⟨_, k5⟩
          · omega
          · rw [h6, k5]
        · rcases k3 with ⟨k4, k5⟩ | ⟨k4, k5⟩
          · have : k' = k := by omega
            rw [h7, k5, this]
          · omega
      · rw [if_neg (by omega), if_pos k1] at hc
        have hp : p = .pointer none := by
          rcases lrs_cases h3 with ⟨_, h, _⟩ | ⟨h, _⟩
          · exact h
          · rw [hc] at h; cases h
        refine ⟨?_, by rw [hc, k2], .inl ⟨by rw [hc]; decide, hp⟩⟩
        rw [k3]
        rcases h3 with ⟨_, q, s, a1, a2, a3, a4, a5⟩ | ⟨_, a1, a2, _⟩ | ⟨a0, _⟩
        · exfalso
          rcases g2 with ⟨_, _, _, _, _, b, _⟩ | ⟨_, b, _⟩ | ⟨_, b, _⟩
          · exact b k0
          · rw [k0] at b; cases b
          · exact Rg.lok_no b (List.getElem?_eq_some_iff.1 a2).1 a2 (by rw [a3]; exact a4)
        · rcases h4 with ⟨h, _⟩ | ⟨_, _, h⟩ | ⟨_, k', h5, h6, _⟩
          · rw [hc] at h; cases h
          · exact h
          · omega
        · rw [hc] at a0; cases a0
      · rw [if_neg (by omega), if_neg (by omega)] at hc
        rcases h4 with ⟨_, h⟩ | ⟨h, _⟩ | ⟨h, _⟩
        · rcases h3 with ⟨_, q, s, _, _, _, a4, _⟩ | ⟨_, _, _, a⟩ | ⟨_, _, _, _, _, b, u, hp, t⟩
          · exact absurd hc a4
          · rcases a with ⟨a, _⟩ | ⟨a, _⟩ <;> rw [hc] at a <;> cases a
          · exact ⟨by rw [h, k3], by rw [hc, k2], .inr ⟨hc, b, _, u, _, hp, t, k4, k5⟩⟩
        · exact absurd hc h
        · exact absurd hc h
end Go.Proofs.YtffcnonhhfhlhaaDoor.Ws
