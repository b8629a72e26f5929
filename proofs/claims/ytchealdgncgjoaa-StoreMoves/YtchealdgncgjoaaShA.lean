import Derived.Test.YtchealdgncgjoaaItGU
import Derived.Test.YtchealdgncgjoaaMpBU
import Derived.Test.YtchealdgncgjoaaMpCU
import Derived.Laws.IdiomStrings
namespace Go.Proofs.Ytchealdgncgjoaa.StU
open Go.RowKit Go.Proofs.Ytchealdgncgjoaa.St
set_option linter.unusedVariables false
set_option linter.unusedSimpArgs false
section
variable {α β : Type}
theorem mid_filter (a b : α → Bool) : ∀ xs : List α, xs.Pairwise (fun x y => (a y = true → a x = true) ∧ (b y = true → b x = true)) →
    (xs.drop (xs.countP a)).take (xs.countP b - xs.countP a) = xs.filter (fun x => !a x && b x)
  | [], _ => by simp
  | x :: xs, h => by
    obtain ⟨h1, h2⟩ := List.pairwise_cons.1 h
    have ih := mid_filter a b xs h2
    have nb : b x = false → ∀ y ∈ xs, b y = false := fun hb y hy => by
      cases hc : b y
      · rfl
      · have := (h1 y hy).2 hc; rw [hb] at this; cases this
    have na : a x = false → ∀ y ∈ xs, a y = false := fun hb y hy => by
      cases hc : a y
      · rfl
      · have := (h1 y hy).1 hc; rw [hb] at this; cases this
    have zb : b x = false → xs.countP b = 0 := fun hb => List.countP_eq_zero.2 (fun y hy => by rw [nb hb y hy]; simp)
    have za : a x = false → xs.countP a = 0 := fun hb => List.countP_eq_zero.2 (fun y hy => by rw [na hb y hy]; simp)
    have fb : b x = false → xs.filter (fun x => !a x && b x) = [] := fun hb => List.filter_eq_nil_iff.2 (fun y hy => by rw [nb hb y hy]; simp)
    cases ha : a x with
    | true =>
      cases hb : b x with
      | true =>
        simp only [List.countP_cons, ha, hb, if_true, List.filter_cons]
        simp only [List.drop_succ_cons, Nat.add_sub_add_right, Bool.not_true, Bool.false_and]
        simpa using ih
      | false =>
        simp only [List.countP_cons, ha, hb, zb hb, List.filter_cons]
        simpa using fb hb
    | false =>
      cases hb : b x with
      | true =>
        rw [za ha] at ih
        simp only [List.countP_cons, ha, hb, za ha, List.filter_cons]
        simpa using ih
      | false =>
        simp only [List.countP_cons, ha, hb, zb hb, za ha, List.filter_cons]
        simpa using fb hb
/-- two lists, place by place -/
def F2 (R : α → β → Prop) : List α → List β → Prop
  | [], [] => True
  | a :: xs, b :: ys => R a b ∧ F2 R xs ys
  | _, _ => False
variable {R : α → β → Prop}
theorem F2.length : ∀ {xs : List α} {ys : List β}, F2 R xs ys → xs.length = ys.length
  | [], [], _ => rfl
  | a :: xs, b :: ys, h => by simp [F2.length h.2]
  | [], b :: ys, h => h.elim
  | a :: xs, [], h => h.elim
theorem F2.imp {S : α → β → Prop} (f : ∀ a b, R a b → S a b) : ∀ {xs : List α} {ys : List β}, F2 R xs ys → F2 S xs ys
  | [], [], _ => trivial
  | a :: xs, b :: ys, h => ⟨f a b h.1, h.2.imp f⟩
  | [], b :: ys, h => h.elim
  | a :: xs, [], h => h.elim
theorem F2.app : ∀ {xs : List α} {ys : List β} {cs : List α} {ds : List β}, F2 R xs ys → F2 R cs ds → F2 R (xs ++ cs) (ys ++ ds)
  | [], [], _, _, _, k => k
  | a :: xs, b :: ys, _, _, h, k => ⟨h.1, h.2.app k⟩
  | [], b :: ys, _, _, h, _ => h.elim
  | a :: xs, [], _, _, h, _ => h.elim
theorem F2.take : ∀ (n : Nat) {xs : List α} {ys : List β}, F2 R xs ys → F2 R (xs.take n) (ys.take n)
  | 0, _, _, _ => trivial
  | n + 1, [], [], _ => trivial
  | n + 1, a :: xs, b :: ys, h => ⟨h.1, F2.take n h.2⟩
  | n + 1, [], b :: ys, h => h.elim
  | n + 1, a :: xs, [], h => h.elim
theorem F2.drop : ∀ (n : Nat) {xs : List α} {ys : List β}, F2 R xs ys → F2 R (xs.drop n) (ys.drop n)
  | 0, _, _, h => h
  | n + 1, [], [], _ => trivial
  | n + 1, a :: xs, b :: ys, h => F2.drop n h.2
  | n + 1, [], b :: ys, h => h.elim
  | n + 1, a :: xs, [], h => h.elim
theorem F2.modify (f : α → α) (g : β → β) (hf : ∀ a b, R a b → R (f a) (g b)) : ∀ (i : Nat) {xs : List α} {ys : List β}, F2 R xs ys → F2 R (xs.modify i f) (ys.modify i g)
  | _, [], [], _ => by simp [F2]
  | 0, a :: xs, b :: ys, h => by simp; exact ⟨hf _ _ h.1, h.2⟩
  | i + 1, a :: xs, b :: ys, h => by simp; exact ⟨h.1, F2.modify f g hf i h.2⟩
  | _, [], b :: ys, h => h.elim
  | _, a :: xs, [], h => h.elim
theorem F2.erase : ∀ (i : Nat) {xs : List α} {ys : List β}, F2 R xs ys → F2 R (xs.eraseIdx i) (ys.eraseIdx i)
  | _, [], [], _ => by simp [F2]
  | 0, a :: xs, b :: ys, h => by simp; exact h.2
  | i + 1, a :: xs, b :: ys, h => by simp; exact ⟨h.1, F2.erase i h.2⟩
  | _, [], b :: ys, h => h.elim
  | _, a :: xs, [], h => h.elim
theorem F2.at : ∀ {i : Nat} {xs : List α} {ys : List β} {a : α}, F2 R xs ys → xs[i]? = some a → ∃ b, ys[i]? = some b ∧ R a b
  | _, [], [], _, _, h => by cases h
  | 0, a :: xs, b :: ys, _, h, e => by simp at e; subst e; exact ⟨b, rfl, h.1⟩
  | i + 1, a :: xs, b :: ys, _, h, e => by simp at e; obtain ⟨x, h1, h2⟩ := F2.at h.2 e; exact ⟨x, by simpa using h1, h2⟩
  | _, [], b :: ys, _, h, _ => h.elim
  | _, a :: xs, [], _, h, _ => h.elim
theorem F2.filter (p : α → Bool) (q : β → Bool) (hpq : ∀ a b, R a b → p a = q b) : ∀ {xs : List α} {ys : List β}, F2 R xs ys → F2 R (xs.filter p) (ys.filter q)
  | [], [], _ => trivial
  | a :: xs, b :: ys, h => by
    rw [List.filter_cons, List.filter_cons, hpq a b h.1]
    split
    · exact ⟨h.1, F2.filter p q hpq h.2⟩
    · exact F2.filter p q hpq h.2
  | [], b :: ys, h => h.elim
  | a :: xs, [], h => h.elim
theorem F2.count (p : α → Bool) (q : β → Bool) (hpq : ∀ a b, R a b → p a = q b) : ∀ {xs : List α} {ys : List β}, F2 R xs ys → xs.countP p = ys.countP q
  | [], [], _ => rfl
  | a :: xs, b :: ys, h => by rw [List.countP_cons, List.countP_cons, hpq a b h.1, F2.count p q hpq h.2]
  | [], b :: ys, h => h.elim
  | a :: xs, [], h => h.elim
theorem F2.any (p : α → Bool) (q : β → Bool) (hpq : ∀ a b, R a b → p a = q b) : ∀ {xs : List α} {ys : List β}, F2 R xs ys → xs.any p = ys.any q
  | [], [], _ => rfl
  | a :: xs, b :: ys, h => by rw [List.any_cons, List.any_cons, hpq a b h.1, F2.any p q hpq h.2]
  | [], b :: ys, h => h.elim
  | a :: xs, [], h => h.elim
theorem F2.modify2 (i : Nat) (f : α → α) (g : β → β) {xs : List α} {ys : List β} (h : F2 R xs ys) (hf : ∀ a b, xs[i]? = some a → ys[i]? = some b → R a b → R (f a) (g b)) : F2 R (xs.modify i f) (ys.modify i g) := by
  induction xs generalizing ys i with
  | nil => cases ys with
    | nil => simp [F2]
    | cons b ys => exact h.elim
  | cons a xs ih => cases ys with
    | nil => exact h.elim
    | cons b ys => cases i with
      | zero => simp; exact ⟨hf a b rfl rfl h.1, h.2⟩
      | succ i => simp; exact ⟨h.1, ih i h.2 (fun x y h1 h2 => hf x y (by simpa using h1) (by simpa using h2))⟩
end
/-- a key and its bytes -/
abbrev KV := Int × List Int
def inR {α : Type} (lo hi : Int) (p : Int × α) : Bool := decide (lo ≤ p.1) && decide (p.1 ≤ hi)
theorem upto_count {α : Type} (c : α → Int) : ∀ xs : List α, xs.Pairwise (fun x y => 0 ≤ c y → 0 < c x) →
    xs.countP (fun x => decide (0 ≤ c x)) = xs.countP (fun x => decide (0 < c x)) + (if xs.any (fun x => decide (c x = 0)) then 1 else 0)
  | [], _ => by simp
  | x :: xs, h => by
    obtain ⟨h1, h2⟩ := List.pairwise_cons.1 h
    have ih := upto_count c xs h2
    by_cases hp : 0 < c x
    · have : 0 ≤ c x := by omega
      have hn : ¬ c x = 0 := by omega
      simp only [List.countP_cons, List.any_cons, hp, this, hn, decide_true, decide_false, if_true, Bool.false_or]
      rw [ih]; omega
    · have hall : ∀ y ∈ xs, c y < 0 := fun y hy => by
        have := h1 y hy; omega
      have z1 : xs.countP (fun x => decide (0 ≤ c x)) = 0 := List.countP_eq_zero.2 (fun y hy => by have := hall y hy; simp; omega)
      have z2 : xs.countP (fun x => decide (0 < c x)) = 0 := List.countP_eq_zero.2 (fun y hy => by have := hall y hy; simp; omega)
      have z3 : xs.any (fun x => decide (c x = 0)) = false := List.any_eq_false.2 (fun y hy => by have := hall y hy; simp; omega)
      by_cases h0 : c x = 0
      · simp [List.countP_cons, z1, z2, h0]
      · have : ¬ 0 ≤ c x := by omega
        simp [List.countP_cons, z1, z2, z3, h0, this, hp]
theorem sd_gt (k : Int) (p : Int × Sv) : 0 < sd k p ↔ p.1 < k := by simp only [sd, side, cmpI]; repeat' split; all_goals omega
theorem sd_ge (k : Int) (p : Int × Sv) : 0 ≤ sd k p ↔ p.1 ≤ k := by simp only [sd, side, cmpI]; repeat' split; all_goals omega
theorem sd_eq (k : Int) (p : Int × Sv) : sd k p = 0 ↔ p.1 = k := by simp only [sd, side, cmpI]; repeat' split; all_goals omega
theorem lowT_eq {t : T (Int × Sv)} (hs : Srt cmpI t.xs) (k : Int) : (T.fd (sd k) t).1 = t.xs.countP (fun p => decide (p.1 < k)) := by
  rw [T.fd_eq (sd k) t (hs.c cmpI_ord k)]
  exact List.countP_congr (fun p _ => by simp [sd_gt])
theorem hasT_eq {t : T (Int × Sv)} (hs : Srt cmpI t.xs) (k : Int) : (T.fd (sd k) t).2 = t.xs.any (fun p => decide (p.1 = k)) := by
  rw [T.fd_eq (sd k) t (hs.c cmpI_ord k)]
  show t.xs.any _ = _
  congr 1
  funext p
  simp [sd_eq]
theorem highT_eq {t : T (Int × Sv)} (hs : Srt cmpI t.xs) (k : Int) : highT k t = t.xs.countP (fun p => decide (p.1 ≤ k)) := by
  unfold highT
  rw [T.fd_eq (sd k) t (hs.c cmpI_ord k), ← upto_count (sd k) t.xs (hs.c cmpI_ord k)]
  exact List.countP_congr (fun p _ => by simp [sd_ge])
theorem seg_filter {t : T (Int × Sv)} (hs : Srt cmpI t.xs) (lo hi : Int) : seg t (lowT lo t) (highT hi t) = t.xs.filter (inR lo hi) := by
  have hl : lowT lo t = t.xs.countP (fun p => decide (p.1 < lo)) := lowT_eq hs lo
  have hp : t.xs.Pairwise (fun x y => (decide (y.1 < lo) = true → decide (x.1 < lo) = true) ∧ (decide (y.1 ≤ hi) = true → decide (x.1 ≤ hi) = true)) := by
    refine List.Pairwise.imp ?_ hs
    intro x y q
    have q : x.1 < y.1 := by simp only [cmpI] at q; repeat' split at q; all_goals omega
    simp only [decide_eq_true_eq]
    omega
  rw [seg_xs, hl, highT_eq hs, Int.toNat_natCast, Int.toNat_natCast, List.drop_take, mid_filter _ _ _ hp]
  refine List.filter_congr (fun p _ => ?_)
  unfold inR
  rw [Bool.eq_iff_iff]
  simp only [Bool.and_eq_true, Bool.not_eq_true', decide_eq_true_eq, decide_eq_false_iff_not]
  omega
theorem cnt_filter {t : T (Int × Sv)} (hs : Srt cmpI t.xs) (lo hi : Int) (h : lo ≤ hi) : highT hi t = lowT lo t + (t.xs.filter (inR lo hi)).length := by
  have h1 := seg_filter hs lo hi
  have hl : lowT lo t = t.xs.countP (fun p => decide (p.1 < lo)) := lowT_eq hs lo
  have hle : lowT lo t ≤ highT hi t := by
    rw [hl, highT_eq hs]
    exact List.countP_mono_left (fun p _ => by simp; omega)
  rw [← h1, seg_xs, List.length_drop, List.length_take, Int.toNat_natCast, Int.toNat_natCast, T.xs_length]
  have := highT_le (t := t) hi
  omega
/-- bytes xs cells -/
def cs (xs : List Int) : List Value := xs.map (Value.int .u8)
theorem cs_length (a : List Int) : (cs a).length = a.length := by simp [cs]
theorem cs_one (ys : List Int) : ∀ u ∈ cs ys, u.oneCell' = true := by
  intro u hu; obtain ⟨x, _, rfl⟩ := List.mem_map.1 hu; rfl
/-- a slice of bytes that can be read -/
def Rd (w : World) (u : Value) (ys : List Int) : Prop :=
  (u = .slice none 0 0 ∧ ys = []) ∨ ∃ a cap, u = .slice (some a) ys.length cap ∧ ∀ j x, (cs ys)[j]? = some x → w.cell? (a.add j) = some x
theorem Rd.slice {w : World} {u : Value} {ys : List Int} (h : Rd w u ys) : ∃ ad cap, u = .slice ad ys.length cap := by
  rcases h with ⟨rfl, rfl⟩ | ⟨a, cap, rfl, _⟩
  · exact ⟨none, 0, rfl⟩
  · exact ⟨_, cap, rfl⟩
theorem Rd.below {w w' : World} {u : Value} {ys : List Int} {B : Nat} (h : Rd w u ys) (hB : w.heap.size ≤ B) (k : Below B w w') : Rd w' u ys := by
  rcases h with ⟨rfl, rfl⟩ | ⟨a, cap, rfl, hc⟩
  · exact .inl ⟨rfl, rfl⟩
  · refine .inr ⟨a, cap, rfl, fun j x hj => ?_⟩
    have := hc j x hj
    exact (World.cell?_of_block (k.block _ (Nat.lt_of_lt_of_le (World.block_lt_of_cell? w _ this) hB))).trans this
theorem Rd.nu {w w' : World} {u : Value} {ys : List Int} (h : Rd w u ys) (k : Kp Nu w w') : Rd w' u ys := h.below (Nat.le_refl _) k.toBelow
theorem Rd.of_own {w : World} {v : Value} {n : Nat} {ys : List Int} {B : Nat} (h : w.ownsRow B 5 1 v n (cs ys)) : Rd w v ys := by
  have hl : ys.length = n := by have := h.1; rw [cs_length] at this; omega
  rcases h.2 with ⟨rfl, h0⟩ | ⟨g, cap, cur, rfl, hb', hg, h1, h2, h3, h4⟩
  · exact .inl ⟨rfl, List.eq_nil_of_length_eq_zero (by omega)⟩
  · refine .inr ⟨⟨g, 0, none⟩, cap, by rw [hl], fun j x hj => ?_⟩
    rw [← h4] at hj
    have hj2 : j < n * 1 := by
      have := (List.getElem?_eq_some_iff.1 hj).1
      rw [List.length_take] at this
      omega
    rw [List.getElem?_take_of_lt hj2] at hj
    rw [Addr.add_lit]
    simpa [World.cell?, hg] using hj
theorem info5 : (Try.prog.info? 5).map (fun i => (i.zero, i.size, i.bytes)) = some (some (.int .u8 0), 1, 1) := by kernel_rfl
theorem isNil74 (w : World) (n c : Nat) : (binOp .eql 74 (.slice none n c) (.slice none 0 0)).run Try.prog w = .ok (.bool true) w := by kernel_rfl
theorem notNil74 (w : World) (a : Addr) (n c : Nat) : (binOp .eql 74 (.slice (some a) n c) (.slice none 0 0)).run Try.prog w = .ok (.bool false) w := by kernel_rfl
set_option maxRecDepth 100000 in
set_option maxHeartbeats 1000000 in
/-- bytes.Clone of what can be read: a row of its own -/
theorem clone_any (w : World) (u : Value) (ys : List Int) (h : Rd w u ys) (hy : ys.length ≤ 3072) : Calls Try.prog 116 #[u] w fun e w' => ∃ v : Sv, e = .returned (.slice v.a v.n v.c) ∧ w'.ownsRow w.heap.size 5 1 (.slice v.a v.n v.c) ys.length (cs ys) ∧ Kp Nu w w' := by
  obtain ⟨i0, hi, hz0, hz1, hz2⟩ := info_parts info5
  rcases h with ⟨rfl, rfl⟩ | ⟨a, cap, rfl, hc⟩
  · have nn := isNil74
    go_enter Try.func116, Try.ntmps116
    go_wp2
    go_ret
    exact ⟨⟨none, 0, 0⟩, rfl, ⟨rfl, .inl ⟨rfl, rfl⟩⟩, Kp.refl _ _⟩
  have nn := notNil74
  have HC : Hid (∀ j x, (cs ys)[j]? = some x → (w.alloc (.cells #[] 5)).cell? (a.add j) = some x) := fun j x hj => by
    have := hc j x hj
    exact (World.cell?_of_block (Below.heap_alloc w _ _ (World.block_lt_of_cell? w _ this))).trans this
  have HY := hide hy
  clear hc hy
  go_enter Try.func116, Try.ntmps116
  go_wp2_with (at_builtin; refine wpList_append_own _ rfl _ _ 74 rfl w.heap.size 5 i0 (.int .u8 0) 1 1 Try.underlying74 hi hz0 hz1 hz2 rfl (by decide) _ _ _ rfl (World.ownsRow_made w #[] 0 (Nat.le_refl _) (Nat.zero_le _) rfl) a ys.length cap (cs ys) rfl ?qc1 ?qc2 ?qc3 ?qc4 ?qc5 ?qc6 ?_)
  case qc1 => simp [cs_length]
  case qc2 => exact HC.out
  case qc3 => exact cs_one ys
  case qc4 => have := HY.out; unfold maxLen; omega
  case qc5 => have := HY.out; omega
  case qc6 => simp
  intro v' w1 hown hgrow hnil
  have hown' : w1.ownsRow w.heap.size 5 1 v' ys.length (cs ys) := by simpa using hown
  obtain ⟨ad, cap2, rfl⟩ := own_slice hown'
  go_wp2
  go_ret
  refine ⟨⟨ad, ys.length, cap2⟩, rfl, hown', ?_⟩
  refine (Kp.alloc w _ Nu).trans (Kp.of_grown hgrow) (fun i hi e => ?_)
  simp [Value.ownBlock] at e
  omega
/-- they are bytes -/
def Byt (ys : List Int) : Prop := ∀ y ∈ ys, 0 ≤ y ∧ y ≤ 255
/-- as a string -/
def bstr (ys : List Int) : ByteArray := ⟨(ys.map fun y => UInt8.ofNat y.toNat).toArray⟩
theorem u8_back {y : Int} (h : 0 ≤ y ∧ y ≤ 255) : ((UInt8.ofNat y.toNat).toNat : Int) = y := by
  rw [UInt8.toNat_ofNat']
  have : y.toNat % 2 ^ 8 = y.toNat := Nat.mod_eq_of_lt (by omega)
  rw [this]; omega
theorem bstr_back {ys : List Int} (h : Byt ys) : (bstr ys).data.toList.map (fun b => (b.toNat : Int)) = ys := by
  simp only [bstr, List.map_map]
  refine (List.map_congr_left (g := id) fun y hy => ?_).trans (List.map_id ys)
  simpa using u8_back (h y hy)
/-- string(b) -/
theorem conv_rd {w : World} {u : Value} {ys : List Int} (h : Rd w u ys) (hb : Byt ys) : (convert 74 9 u).run Try.prog w = .ok (.string (bstr ys)) w := by
  rcases h with ⟨rfl, rfl⟩ | ⟨a, cap, rfl, hc⟩
  · kernel_rfl
  · have := run_convert_bytes_back (P := Try.prog) w 74 9 5 a cap (ys.map fun y => UInt8.ofNat y.toNat) Try.underlying74 Try.underlying5 Try.underlying9 (fun j hj => by
      have hj' : j < ys.length := by simpa using hj
      rw [List.getElem_map, u8_back (hb _ (List.getElem_mem hj'))]
      exact hc j _ (by simp [cs, hj']))
    simpa [bstr] using this
end Go.Proofs.Ytchealdgncgjoaa.StU
