import Derived.Test.YtckjededijgjgaaDoorUqE
import Derived.Test.YtckjededijgjgaaDoorFtB
import Derived.Test.YtckjededijgjgaaDoorCtB
import Derived.Test.YtckjededijgjgaaDoorQtD
namespace Go.Proofs.YtckjededijgjgaaDoor.Cb
open Go.Proofs.YtckjededijgjgaaDoor.Pc (P4 pieces piecesFrom piecesFrom_end pcF encAt isEnc width_le Ofs)
open Go.Proofs.YtckjededijgjgaaDoor.Qt (prn qS quoteL ownB of_place of_broken)
open Go.Proofs.YtckjededijgjgaaDoor.Uq (rqG escF escB escR escAt hexRun unqF preQ)
open Go.Proofs.YtckjededijgjgaaDoor.Enc (plainF kindF)
open Go.Proofs.YtckjededijgjgaaDoor.Hx (hexL hexD hv hxs hex_hxs hexL_len hex_first hexV_D)
open Go.Proofs.YtckjededijgjgaaDoor.Num (hexV)
set_option linter.unusedVariables false

/-- the pieces from a place on -/
def PF (q : ByteArray) (pos : Nat) : List P4 := piecesFrom q (q.size - pos) pos
theorem pf_fuel (q : ByteArray) (f : Nat) : ∀ pos g, q.size ≤ pos + f → q.size ≤ pos + g → piecesFrom q f pos = piecesFrom q g pos := by
  induction f with
  | zero => intro pos g h1 h2; rw [piecesFrom_end q 0 pos (by omega), piecesFrom_end q g pos (by omega)]
  | succ f ih =>
    intro pos g h1 h2
    by_cases h : pos < q.size
    · obtain ⟨g, rfl⟩ : ∃ g', g = g' + 1 := ⟨g - 1, by omega⟩
      have := width_le q pos h
      rw [Pc.piecesFrom, Pc.piecesFrom, if_pos h, if_pos h, ih _ g (by omega) (by omega)]
    · rw [piecesFrom_end q _ pos h, piecesFrom_end q _ pos h]
theorem PF_more {q : ByteArray} {pos : Nat} (h : pos < q.size) : PF q pos = pcF q pos :: PF q (pos + (Utf8.decode q pos).2) := by
  have hw := width_le q pos h
  unfold PF
  rw [show q.size - pos = (q.size - pos - 1) + 1 by omega, Pc.piecesFrom, if_pos h]
  rw [pf_fuel q (q.size - pos - 1) _ (q.size - (pos + (Utf8.decode q pos).2)) (by omega) (by omega)]
theorem PF_end {q : ByteArray} {pos : Nat} (h : ¬ pos < q.size) : PF q pos = [] := piecesFrom_end q _ pos h
theorem PF_zero (q : ByteArray) : PF q 0 = pieces q := rfl

/-- all pieces from a place on are plain runes -/
def PL (q : ByteArray) (pos : Nat) : Prop := ∀ x ∈ PF q pos, x.2.2.2 = false ∧ plainF x.1 = true

theorem get_drop {q : ByteArray} {pos : Nat} {l : List UInt8} (h : q.data.toList.drop pos = l) (i : Nat) (c : UInt8) (hc : l[i]? = some c) : pos + i < q.size ∧ q.get! (pos + i) = c := by
  rw [← h, List.getElem?_drop] at hc
  have hlt : pos + i < q.data.toList.length := (List.getElem?_eq_some_iff.1 hc).1
  have hlt' : pos + i < q.size := by rw [Array.length_toList] at hlt; exact hlt
  refine ⟨hlt', ?_⟩
  have := Ft.get_list q (pos + i) hlt'
  rw [this] at hc
  exact Option.some.inj hc
/-- an ASCII byte is a piece -/
theorem ascii {q : ByteArray} {pos : Nat} (hp : pos < q.size) (c : UInt8) (hc : q.get! pos = c) (h : c.toNat < 128) : Utf8.decode q pos = (c.toNat, 1) ∧ pcF q pos = ((c.toNat : Int), (pos : Int), 1, false) := by
  have he : encAt q pos c.toNat 1 := .inl ⟨rfl, h, by rw [hc]⟩
  have hd := Ft.dec_whole he
  refine ⟨hd, ?_⟩
  unfold Pc.pcF
  rw [hd, if_neg (by simp; omega)]
  rfl
theorem PF_ascii {q : ByteArray} {pos : Nat} (hp : pos < q.size) (c : UInt8) (hc : q.get! pos = c) (h : c.toNat < 128) : PF q pos = ((c.toNat : Int), (pos : Int), 1, false) :: PF q (pos + 1) := by
  have := ascii hp c hc h
  rw [PF_more hp, this.1, this.2]
/-- printable ASCII -/
theorem plain_ascii (n : Nat) (h1 : 33 ≤ n) (h2 : n ≤ 126) : plainF (n : Int) = true := by
  have h : ∀ m : Fin 94, plainF ((m.val + 33 : Nat) : Int) = true := by decide +kernel
  have := h ⟨n - 33, by omega⟩
  rw [show n - 33 + 33 = n by omega] at this
  exact this
/-- the rest of an escape is passed by -/
theorem skip (q : ByteArray) (l : List UInt8) : ∀ (pos : Nat) (t : List UInt8) (nx : Int) (acc : List UInt8), q.data.toList.drop pos = l ++ t → (∀ c ∈ l, 33 ≤ c.toNat ∧ c.toNat ≤ 126) → nx = ((pos + l.length : Nat) : Int) →
    rqG q (PF q pos) nx acc = rqG q (PF q (pos + l.length)) nx acc ∧ (PL q (pos + l.length) → PL q pos) := by
  induction l with
  | nil => intro pos t nx acc _ _ _; exact ⟨rfl, fun h => h⟩
  | cons c l ih =>
    intro pos t nx acc hd hc hn
    have g := get_drop hd 0 c rfl
    rw [Nat.add_zero] at g
    have hcc := hc c (by simp)
    have hp := PF_ascii g.1 c g.2 (by omega)
    have hd2 : q.data.toList.drop (pos + 1) = l ++ t := by
      rw [← List.drop_drop, hd]; rfl
    have i := ih (pos + 1) t nx acc hd2 (fun x hx => hc x (by simp [hx])) (by rw [hn]; simp; omega)
    rw [List.length_cons] at hn ⊢
    rw [show pos + (l.length + 1) = pos + 1 + l.length by omega]
    refine ⟨?_, fun h => ?_⟩
    · rw [hp, rqG, if_pos (by simp only; omega)]
      exact i.1
    · intro x hx
      rw [hp] at hx
      rcases List.mem_cons.1 hx with rfl | hx
      · exact ⟨rfl, plain_ascii c.toNat hcc.1 hcc.2⟩
      · exact i.2 h x hx
/-- a whole escape -/
theorem esc_step (q : ByteArray) (pos : Nat) (l t : List UInt8) (own : List UInt8) (nx : Int) (acc : List UInt8) (hd : q.data.toList.drop pos = 92 :: l ++ t) (hc : ∀ c ∈ l, 33 ≤ c.toNat ∧ c.toNat ≤ 126) (hn : nx ≤ (pos : Int))
    (he : escF (92 :: l ++ t) = (own, l.length + 1)) : rqG q (PF q pos) nx acc = rqG q (PF q (pos + (l.length + 1))) ((pos + (l.length + 1) : Nat) : Int) (acc ++ own) ∧ (PL q (pos + (l.length + 1)) → PL q pos) := by
  have g := get_drop hd 0 92 rfl
  rw [Nat.add_zero] at g
  have hp := PF_ascii g.1 92 g.2 (by decide)
  have hd2 : q.data.toList.drop (pos + 1) = l ++ t := by
    rw [← List.drop_drop, hd]; rfl
  have i := skip q l (pos + 1) t ((pos + (l.length + 1) : Nat) : Int) (acc ++ own) hd2 hc (by omega)
  have hesc : escAt q (pos : Int) = (own, l.length + 1) := by
    unfold Uq.escAt
    rw [Int.toNat_natCast, ← he, ← hd]
    congr 1
    rw [Lib.extract_data]
    rw [List.take_of_length_le (by simp)]
  rw [show pos + 1 + l.length = pos + (l.length + 1) by omega] at i
  refine ⟨?_, fun h => ?_⟩
  · have h92 : ((92 : UInt8).toNat : Int) = 92 := rfl
    rw [hp, h92, rqG, if_neg (by simp only; omega), if_neg (by simp), if_neg (by simp), if_pos rfl, hesc, if_neg (by simp)]
    simp only
    rw [show (pos : Int) + ((l.length + 1 : Nat) : Int) = ((pos + (l.length + 1) : Nat) : Int) by omega]
    exact i.1
  · intro x hx
    rw [hp] at hx
    rcases List.mem_cons.1 hx with rfl | hx
    · exact ⟨rfl, plain_ascii 92 (by omega) (by omega)⟩
    · exact i.2 h x hx
end Go.Proofs.YtckjededijgjgaaDoor.Cb
namespace Go.Proofs.YtckjededijgjgaaDoor.Cb
open Go.Proofs.YtckjededijgjgaaDoor.Pc (P4 pieces piecesFrom piecesFrom_end pcF encAt isEnc width_le Ofs)
open Go.Proofs.YtckjededijgjgaaDoor.Qt (prn qS quoteL ownB of_place of_broken)
open Go.Proofs.YtckjededijgjgaaDoor.Uq (rqG escF escB escR escAt hexRun unqF preQ)
open Go.Proofs.YtckjededijgjgaaDoor.Enc (plainF kindF)
open Go.Proofs.YtckjededijgjgaaDoor.Hx (hexL hexD hv hxs hex_hxs hexL_len hex_first hexV_D hexL_small hexL_big)
open Go.Proofs.YtckjededijgjgaaDoor.Num (hexV)
set_option linter.unusedVariables false

theorem run_all : ∀ (l : List UInt8) (f n k : Nat) (t : List UInt8), hxs l → l.length ≤ f → hexRun f n k (l ++ 125 :: t) = (hv n l, k + l.length)
  | [], f, n, k, t, _, _ => by
    cases f with
    | zero => rfl
    | succ f => rw [List.nil_append, Uq.hexRun, if_pos (by decide)]; rfl
  | c :: l, 0, n, k, t, _, h => by simp at h
  | c :: l, f + 1, n, k, t, h, hf => by
    rw [List.cons_append, Uq.hexRun, if_neg (h c (by simp)), run_all l f _ _ t (fun x hx => h x (by simp [hx])) (by simpa using hf)]
    simp only [Hx.hv, List.length_cons, Prod.mk.injEq, true_and]
    omega
theorem esc_two (c o : UInt8) (t : List UInt8) (h : (c = 34 ∧ o = 34) ∨ (c = 92 ∧ o = 92) ∨ (c = 110 ∧ o = 10) ∨ (c = 114 ∧ o = 13) ∨ (c = 116 ∧ o = 9)) : escF (92 :: [c] ++ t) = ([o], [c].length + 1) := by
  unfold Uq.escF
  rw [if_neg (by simp)]
  show (if c = 34 then _ else _) = _
  rcases h with ⟨rfl, rfl⟩ | ⟨rfl, rfl⟩ | ⟨rfl, rfl⟩ | ⟨rfl, rfl⟩ | ⟨rfl, rfl⟩ <;> rfl
theorem esc_byte (a b : UInt8) (t : List UInt8) (ha : hexV a.toNat ≠ 16) (hb : hexV b.toNat ≠ 16) : escF (92 :: [120, a, b] ++ t) = ([UInt8.ofNat (16 * hexV a.toNat + hexV b.toNat)], [120, a, b].length + 1) := by
  unfold Uq.escF
  rw [if_neg (by simp)]
  show escB (92 :: [120, a, b] ++ t) = _
  unfold Uq.escB
  rw [if_neg (by simp)]
  show (if hexV a.toNat = 16 ∨ hexV b.toNat = 16 then _ else _) = _
  rw [if_neg (by simp [ha, hb])]
  rfl
theorem escF_u (l : List UInt8) (h2 : ¬ l.length < 2) (h : l.getD 1 0 = 117) : escF l = escR l := by
  unfold Uq.escF
  rw [if_neg h2, h, if_neg (by decide), if_neg (by decide), if_neg (by decide), if_neg (by decide), if_neg (by decide), if_neg (by decide), if_pos rfl]
theorem esc_rune (n : Nat) (hv' : Utf8.valid (n : Int) = true) (h6 : (hexL n).length ≤ 6) (h1 : 1 ≤ (hexL n).length) (t : List UInt8) : escF (92 :: (117 :: 123 :: (hexL n ++ [125])) ++ t) = ((Utf8.encode (n : Int)).data.toList, (117 :: 123 :: (hexL n ++ [125])).length + 1) := by
  have hh := hex_hxs n
  rw [escF_u _ (by simp) rfl]
  have hr : hexRun 6 0 0 ((92 :: (117 :: 123 :: (hexL n ++ [125])) ++ t).drop 3) = (n, (hexL n).length) := by
    have := run_all (hexL n) 6 0 0 t hh.1 h6
    rw [hh.2, Nat.zero_add] at this
    rw [← this]
    simp
  rw [Uq.escR_of (by simp) hr]
  have hg : (92 :: (117 :: 123 :: (hexL n ++ [125])) ++ t).getD (3 + (hexL n).length) 0 = 125 := by
    rw [List.getD_eq_getElem?_getD]
    have : (92 :: (117 :: 123 :: (hexL n ++ [125])) ++ t)[3 + (hexL n).length]? = some 125 := by
      rw [show 92 :: (117 :: 123 :: (hexL n ++ [125])) ++ t = [92, 117, 123] ++ (hexL n ++ (125 :: t)) by simp]
      rw [List.getElem?_append_right (by simp), List.getElem?_append_right (by simp)]
      simp
    rw [this]
    rfl
  rw [if_neg, if_pos hv']
  · simp
    omega
  · rw [hg]
    rintro (h | h | h)
    · omega
    · simp at h
      omega
    · exact h rfl
/-- hexadecimal digits are printable -/
theorem hex_print (n : Nat) : ∀ c ∈ hexL n, 33 ≤ c.toNat ∧ c.toNat ≤ 126 := by
  have hD : ∀ d : Fin 16, 33 ≤ (UInt8.ofNat (hexD d.val)).toNat ∧ (UInt8.ofNat (hexD d.val)).toNat ≤ 126 := by decide +kernel
  induction n using Nat.strongRecOn with
  | ind n ih =>
    by_cases h : n < 16
    · rw [hexL_small h]
      intro c hc
      simp only [List.mem_singleton] at hc
      subst hc
      exact hD ⟨n, h⟩
    · rw [hexL_big h]
      intro c hc
      rcases List.mem_append.1 hc with hc | hc
      · exact ih (n / 16) (by omega) c hc
      · simp only [List.mem_singleton] at hc
        subst hc
        exact hD ⟨n % 16, by omega⟩

/-- what is printed of one piece, read -/
structure Ck (q : ByteArray) (pos : Nat) (P own : List UInt8) : Prop where
  step : ∀ (nx : Int) (acc : List UInt8), nx ≤ (pos : Int) → ∃ nx' : Int, nx' ≤ ((pos + P.length : Nat) : Int) ∧ rqG q (PF q pos) nx acc = rqG q (PF q (pos + P.length)) nx' (acc ++ own)
  pl : PL q (pos + P.length) → PL q pos

theorem ck_esc (q : ByteArray) (pos : Nat) (l t own : List UInt8) (hd : q.data.toList.drop pos = (92 :: l) ++ t) (hc : ∀ c ∈ l, 33 ≤ c.toNat ∧ c.toNat ≤ 126) (he : escF (92 :: l ++ t) = (own, l.length + 1)) : Ck q pos (92 :: l) own :=
  ⟨fun nx acc hn => ⟨_, Int.le_refl _, (esc_step q pos l t own nx acc hd hc hn he).1⟩, (esc_step q pos l t own 0 [] hd hc (by omega) he).2⟩

theorem one_byte {s : ByteArray} {pos : Nat} (h : pos < s.size) (c : UInt8) (hc : s.get! pos = c) : (s.extract pos (pos + 1)).data.toList = [c] := by
  rw [Pc.bytes_at s pos 1 (by omega)]
  simp [List.range_succ, hc]
theorem own_pcF (b : ByteArray) (p k : Nat) (r : Int) (br : Bool) : ownB b (r, (p : Int), (k : Int), br) = b.extract p (p + k) := by
  unfold Qt.ownB
  congr 1

theorem chunk (b q : ByteArray) (x : P4) (hx : Ofs b x) (pos : Nat) (t : List UInt8) (hd : q.data.toList.drop pos = prn (ownB b x).data.toList x.1 x.2.2.2 ++ t) : Ck q pos (prn (ownB b x).data.toList x.1 x.2.2.2) (ownB b x).data.toList := by
  obtain ⟨p, hp, rfl⟩ := hx
  rcases Pc.pc_cases b p hp with ⟨hw, hpc, h128⟩ | ⟨r, k, hpc, hw, he⟩
  · rw [hpc] at hd ⊢
    simp only at hd ⊢
    have ho : (ownB b ((b[p].toNat : Int), (p : Int), 1, true)).data.toList = [b[p]] := by
      rw [show ((1 : Int)) = ((1 : Nat) : Int) from rfl, own_pcF]
      exact one_byte hp b[p] (Pc.get_at b p hp)
    rw [ho] at hd ⊢
    have hlt := b[p].toNat_lt
    have e : prn [b[p]] (b[p].toNat : Int) true = 92 :: [120, UInt8.ofNat (hexD (b[p].toNat / 16)), UInt8.ofNat (hexD (b[p].toNat % 16))] := by
      unfold Qt.prn
      rw [if_pos rfl, Int.toNat_natCast, Qt.hex_two _ h128 (by omega)]
      rfl
    rw [e] at hd ⊢
    have v1 := hexV_D (b[p].toNat / 16) (by omega)
    have v2 := hexV_D (b[p].toNat % 16) (by omega)
    have hh := hex_print b[p].toNat
    rw [Qt.hex_two _ h128 (by omega)] at hh
    refine ck_esc q pos _ t _ hd (fun c hc => ?_) ?_
    · simp only [List.mem_cons, List.not_mem_nil, or_false] at hc
      rcases hc with rfl | rfl | rfl
      · decide
      · exact hh _ (by simp)
      · exact hh _ (by simp)
    · rw [esc_byte _ _ t (by rw [v1]; omega) (by rw [v2]; omega), v1, v2, show 16 * (b[p].toNat / 16) + b[p].toNat % 16 = b[p].toNat by omega]
      simp
  · rw [hpc] at hd ⊢
    simp only at hd ⊢
    have hlen := Pc.encAt_len he
    have hen := Pc.enc_bytes hp he
    rw [own_pcF] at hd ⊢
    have hkb : p + k ≤ b.size := (Ft.encAt_end he hp).1
    have two : ∀ (o c : UInt8), (r : Int) = (o.toNat : Int) → o.toNat < 128 → ((c = 34 ∧ o = 34) ∨ (c = 92 ∧ o = 92) ∨ (c = 110 ∧ o = 10) ∨ (c = 114 ∧ o = 13) ∨ (c = 116 ∧ o = 9)) → q.data.toList.drop pos = (92 :: [c]) ++ t → Ck q pos (92 :: [c]) (b.extract p (p + k)).data.toList := by
      intro o c hro ho hco hd'
      have hk : k = 1 := by rcases he with h | h | h | h <;> omega
      subst hk
      have hb : b.get! p = o := by
        have : (b.get! p).toNat = r := by rcases he with h | h | h | h <;> omega
        rw [← UInt8.toNat_inj]; omega
      rw [one_byte hp o hb]
      refine ck_esc q pos [c] t [o] hd' (fun x hx => ?_) (esc_two c o t hco)
      simp only [List.mem_singleton] at hx
      subst hx
      rcases hco with ⟨rfl, _⟩ | ⟨rfl, _⟩ | ⟨rfl, _⟩ | ⟨rfl, _⟩ | ⟨rfl, _⟩ <;> decide
    unfold Qt.prn at hd ⊢
    rw [if_neg (by simp)] at hd ⊢
    by_cases c1 : (r : Int) = 34
    · rw [if_pos c1] at hd ⊢; exact two 34 34 c1 (by decide) (.inl ⟨rfl, rfl⟩) hd
    rw [if_neg c1] at hd ⊢
    by_cases c2 : (r : Int) = 92
    · rw [if_pos c2] at hd ⊢; exact two 92 92 c2 (by decide) (.inr (.inl ⟨rfl, rfl⟩)) hd
    rw [if_neg c2] at hd ⊢
    by_cases c3 : (r : Int) = 10
    · rw [if_pos c3] at hd ⊢; exact two 10 110 c3 (by decide) (.inr (.inr (.inl ⟨rfl, rfl⟩))) hd
    rw [if_neg c3] at hd ⊢
    by_cases c4 : (r : Int) = 13
    · rw [if_pos c4] at hd ⊢; exact two 13 114 c4 (by decide) (.inr (.inr (.inr (.inl ⟨rfl, rfl⟩)))) hd
    rw [if_neg c4] at hd ⊢
    by_cases c5 : (r : Int) = 9
    · rw [if_pos c5] at hd ⊢; exact two 9 116 c5 (by decide) (.inr (.inr (.inr (.inr ⟨rfl, rfl⟩)))) hd
    rw [if_neg c5] at hd ⊢
    by_cases c6 : plainF (r : Int) = true
    · rw [if_pos c6] at hd ⊢
      have hol : (b.extract p (p + k)).data.toList.length = k := by
        rw [Array.length_toList]
        show (b.extract p (p + k)).size = k
        rw [ByteArray.size_extract]; omega
      have hq : encAt q pos r k := by
        have hb := Pc.bytes_at b p k hkb
        have g : ∀ j, j < k → pos + j < q.size ∧ q.get! (pos + j) = b.get! (p + j) := fun j hj => get_drop hd j _ (by
          rw [List.getElem?_append_left (by omega), hb]
          simp [hj])
        exact Ft.encAt_move he (by have := g (k - 1) (by omega); omega) (fun j hj => (g j hj).2)
      have hpos : pos < q.size := by
        have hb := Pc.bytes_at b p k hkb
        have := get_drop hd 0 (b.get! (p + 0)) (by
          have h0 : 0 < k := by omega
          rw [List.getElem?_append_left (by omega), hb]
          simp [h0])
        omega
      have hdq := Ft.dec_whole hq
      have hpq : pcF q pos = ((r : Int), (pos : Int), (k : Int), false) := by
        rcases Pc.pc_cases q pos hpos with ⟨_, _, h3⟩ | ⟨r', k', h2, _, h4⟩
        · exfalso
          rcases Pc.decode_cases q pos with ⟨h5, h6, h7⟩ | ⟨r', k', h5, h6⟩
          · exact h7 _ _ hq
          · rename_i hww hpp
            have hne : ¬ Utf8.decode q pos = (65533, 1) := by
              rw [hdq]; intro e; simp only [Prod.mk.injEq] at e; obtain ⟨rfl, rfl⟩ := e
              rcases hq with h | h | h | h <;> omega
            unfold Pc.pcF at hpp
            rw [if_neg hne] at hpp
            simp at hpp
        · obtain ⟨rfl, rfl⟩ := Pc.isEnc_unique hq h4
          exact h2
      have hPF : PF q pos = ((r : Int), (pos : Int), (k : Int), false) :: PF q (pos + k) := by rw [PF_more hpos, hpq, hdq]
      have hoq : (ownB q ((r : Int), (pos : Int), (k : Int), false)).data.toList = (b.extract p (p + k)).data.toList := by
        rw [own_pcF, Pc.enc_bytes hpos hq, ← hen]
      refine ⟨fun nx acc hn => ⟨nx, by rw [hol]; omega, ?_⟩, fun h => ?_⟩
      · rw [hPF, rqG, if_neg (by simp only; omega), if_neg (by simp), if_neg c1, if_neg c2, if_pos c6, hoq, hol]
      · intro y hy
        rw [hPF] at hy
        rcases List.mem_cons.1 hy with rfl | hy
        · exact ⟨rfl, c6⟩
        · rw [hol] at h; exact h y hy
    · rw [if_neg c6] at hd ⊢
      rw [Int.toNat_natCast] at hd ⊢
      have hv' : Utf8.valid (r : Int) = true := (Pc.valid_yes _ (by omega)).symm
      have h6 := hexL_len 5 r (by have : (16 : Nat) ^ (5 + 1) = 16777216 := by decide
                                  omega)
      have e : [92, 117, 123] ++ hexL r ++ [125] = 92 :: (117 :: 123 :: (hexL r ++ [125])) := by simp
      rw [e] at hd ⊢
      rw [hen]
      refine ck_esc q pos _ t _ hd (fun c hc => ?_) (esc_rune r hv' h6.2 h6.1 t)
      simp only [List.mem_cons, List.mem_append, List.not_mem_nil, or_false] at hc
      rcases hc with rfl | rfl | hc | rfl
      · decide
      · decide
      · exact hex_print r c hc
      · decide
end Go.Proofs.YtckjededijgjgaaDoor.Cb
namespace Go.Proofs.YtckjededijgjgaaDoor.Cb
open Go.Proofs.YtckjededijgjgaaDoor.Pc (P4 pieces piecesFrom piecesFrom_end pcF width_le Ofs)
open Go.Proofs.YtckjededijgjgaaDoor.Qt (prn qS quoteL ownB of_place pieces_ofs qS_bound)
open Go.Proofs.YtckjededijgjgaaDoor.Uq (rqG unqF preQ)
open Go.Proofs.YtckjededijgjgaaDoor.Enc (plainF)
set_option linter.unusedVariables false

/-- the bytes of pieces, end to end -/
def ownS (b : ByteArray) : List P4 → List UInt8
  | [] => []
  | x :: t => (ownB b x).data.toList ++ ownS b t

theorem tail (b q : ByteArray) : ∀ (l : List P4), (∀ x ∈ l, Ofs b x) → ∀ (pos : Nat) (nx : Int) (acc : List UInt8), q.data.toList.drop pos = qS b l ++ [34] → nx ≤ (pos : Int) →
    rqG q (PF q pos) nx acc = (acc ++ ownS b l, (q.size : Int), 0) ∧ PL q pos
  | [], _, pos, nx, acc, hd, hn => by
    have g := get_drop hd 0 34 rfl
    rw [Nat.add_zero] at g
    have hp := PF_ascii g.1 34 g.2 (by decide)
    have hz : pos + 1 = q.size := by
      have h1 := congrArg List.length hd
      rw [List.length_drop, Array.length_toList] at h1
      have h2 : q.data.size = q.size := rfl
      simp [Qt.qS] at h1
      omega
    have h34 : ((34 : UInt8).toNat : Int) = 34 := rfl
    rw [h34] at hp
    have hend : PF q (pos + 1) = [] := PF_end (by omega)
    refine ⟨?_, fun x hx => ?_⟩
    · rw [hp, rqG, if_neg (by simp only; omega), if_neg (by simp), if_pos rfl]
      simp only [ownS, List.append_nil, Prod.mk.injEq, true_and, and_true]
      omega
    · rw [hp, hend] at hx
      simp only [List.mem_singleton] at hx
      subst hx
      exact ⟨rfl, plain_ascii 34 (by omega) (by omega)⟩
  | x :: l, hl, pos, nx, acc, hd, hn => by
    rw [Qt.qS, List.append_assoc] at hd
    have C := chunk b q x (hl x (by simp)) pos (qS b l ++ [34]) hd
    obtain ⟨nx', h1, h2⟩ := C.step nx acc hn
    have hd2 : q.data.toList.drop (pos + (prn (ownB b x).data.toList x.1 x.2.2.2).length) = qS b l ++ [34] := by
      rw [← List.drop_drop, hd, List.drop_left]
    have i := tail b q l (fun y hy => hl y (by simp [hy])) _ nx' (acc ++ (ownB b x).data.toList) hd2 h1
    refine ⟨?_, C.pl i.2⟩
    rw [h2, i.1, ownS, List.append_assoc]

theorem own_from (b : ByteArray) (f : Nat) : ∀ pos, pos ≤ b.size → b.size ≤ pos + f → ownS b (piecesFrom b f pos) = b.data.toList.drop pos := by
  induction f with
  | zero =>
    intro pos h1 h2
    rw [List.drop_of_length_le (by rw [Array.length_toList]; show b.size ≤ pos; omega)]
    rfl
  | succ f ih =>
    intro pos h1 h2
    by_cases h : pos < b.size
    · have hw := width_le b pos h
      rw [Pc.piecesFrom, if_pos h, ownS, ih _ hw.2.2 (by omega)]
      have ho : (ownB b (pcF b pos)).data.toList = (b.data.toList.drop pos).take (Utf8.decode b pos).2 := by
        have e : ownB b (pcF b pos) = b.extract pos (pos + (Utf8.decode b pos).2) := by
          have : pcF b pos = ((pcF b pos).1, (pos : Int), (((Utf8.decode b pos).2 : Nat) : Int), (pcF b pos).2.2.2) := by
            unfold Pc.pcF
            split
            · rename_i hd; rw [hd]; rfl
            · rfl
          rw [this, own_pcF]
        rw [e, Lib.extract_data, show pos + (Utf8.decode b pos).2 - pos = (Utf8.decode b pos).2 by omega]
      rw [ho, ← List.drop_drop, List.take_append_drop]
    · rw [piecesFrom_end b _ pos h, List.drop_of_length_le (by rw [Array.length_toList]; show b.size ≤ pos; omega)]
      rfl
theorem own_all (b : ByteArray) : ownS b (pieces b) = b.data.toList := by
  have := own_from b b.size 0 (by omega) (by omega)
  rw [List.drop_zero] at this
  exact this

/-- the quoted text -/
def Q (b : ByteArray) : ByteArray := ⟨(quoteL b).toArray⟩
theorem Q_list (b : ByteArray) : (Q b).data.toList = 34 :: qS b (pieces b) ++ [34] := by
  unfold Q Qt.quoteL
  simp
theorem Q_size (b : ByteArray) : (Q b).size = (qS b (pieces b)).length + 2 := by
  show (quoteL b).toArray.size = _
  unfold Qt.quoteL
  simp
theorem Q_bound (b : ByteArray) (hb : b.size ≤ 1048576) : (Q b).size ≤ 11000000 := by
  have h1 := qS_bound b (pieces b) (pieces_ofs b)
  have h2 := Wd.pieces_len b
  rw [Q_size]
  omega
theorem Q_first (b : ByteArray) (h : 0 < (Q b).size) : (Q b)[0] = 34 := by
  have := Ft.get_list (Q b) 0 h
  rw [Q_list] at this
  rw [← Pc.get_at _ _ h]
  simpa using this.symm
theorem Q_last (b : ByteArray) (h : (Q b).size - 1 < (Q b).size) : (Q b)[(Q b).size - 1] = 34 := by
  have := Ft.get_list (Q b) ((Q b).size - 1) h
  rw [Q_list] at this
  rw [← Pc.get_at _ _ h]
  have hs := Q_size b
  rw [List.getElem?_append_right (by simp; omega)] at this
  rw [show (Q b).size - 1 - (34 :: qS b (pieces b)).length = 0 by simp; omega] at this
  simpa using this.symm
/-- what is quoted is read back, and is plain -/
theorem Q_back (b : ByteArray) : unqF (Q b) = (b.data.toList, 0, 0) ∧ PL (Q b) 0 := by
  have hsz := Q_size b
  have hl := Q_list b
  have g := get_drop (q := Q b) (pos := 0) (l := 34 :: qS b (pieces b) ++ [34]) (by rw [List.drop_zero, hl]) 0 34 rfl
  have hp := PF_ascii (q := Q b) (pos := 0) (by omega) 34 g.2 (by decide)
  have hd : (Q b).data.toList.drop 1 = qS b (pieces b) ++ [34] := by rw [hl]; rfl
  have T := tail b (Q b) (pieces b) (pieces_ofs b) 1 1 [] hd (by omega)
  rw [own_all, List.nil_append] at T
  have hr : rqG (Q b) (pieces (Q b)) 1 [] = (b.data.toList, ((Q b).size : Int), 0) := by
    rw [← PF_zero, hp, rqG, if_pos (by simp)]
    exact T.1
  refine ⟨?_, fun x hx => ?_⟩
  · unfold Uq.unqF
    have hq : preQ (Q b).data.toList = true := by rw [hl]; rfl
    rw [hq, if_neg (by simp), hr]
    simp
  · rw [hp] at hx
    rcases List.mem_cons.1 hx with rfl | hx
    · exact ⟨rfl, plain_ascii 34 (by omega) (by omega)⟩
    · exact T.2 x hx
end Go.Proofs.YtckjededijgjgaaDoor.Cb
