import Derived.Test.YtchealdgncgjoaaItGU
import Derived.Test.YtchealdgncgjoaaMpBU
import Derived.Test.YtchealdgncgjoaaItDU
import Derived.Laws.IdiomStrings
import Derived.Laws.EntriesVeiled
import Derived.BigQuiet
import Derived.Deep.QuietTactic
namespace Go.Proofs.Ytchealdgncgjoaa.StU
open Go.RowKit Go.Proofs.Ytchealdgncgjoaa.St
set_option linter.unusedVariables false
set_option linter.unusedSimpArgs false
section
variable {α β : Type}
theorem mid_filter (a b : α → Bool) : ∀ xs : List α, xs.Pairwise (fun x y => (a y = true → a x = true) ∧ (b y = true → b x = true)) →
    (xs.drop (xs.countP a)).take (xs.countP b - xs.countP a) = xs.filter (fun x => !a x && b x)
  | [], _ => by simp
  | x :: xs, h => by
    obtain ⟨h1, h2⟩ := List.pairwise_cons.1 h
    have ih := mid_filter a b xs h2
    have nb : b x = false → ∀ y ∈ xs, b y = false := fun hb y hy => by
      cases hc : b y
      · rfl
      · have := (h1 y hy).2 hc; rw [hb] at this; cases this
    have na : a x = false → ∀ y ∈ xs, a y = false := fun hb y hy => by
      cases hc : a y
      · rfl
      · have := (h1 y hy).1 hc; rw [hb] at this; cases this
    have zb : b x = false → xs.countP b = 0 := fun hb => List.countP_eq_zero.2 (fun y hy => by rw [nb hb y hy]; simp)
    have za : a x = false → xs.countP a = 0 := fun hb => List.countP_eq_zero.2 (fun y hy => by rw [na hb y hy]; simp)
    have fb : b x = false → xs.filter (fun x => !a x && b x) = [] := fun hb => List.filter_eq_nil_iff.2 (fun y hy => by rw [nb hb y hy]; simp)
    cases ha : a x with
    | true =>
      cases hb : b x with
      | true =>
        simp only [List.countP_cons, ha, hb, if_true, List.filter_cons]
        simp only [List.drop_succ_cons, Nat.add_sub_add_right, Bool.not_true, Bool.false_and]
        simpa using ih
      | false =>
        simp only [List.countP_cons, ha, hb, zb hb, List.filter_cons]
        simpa using fb hb
    | false =>
      cases hb : b x with
      | true =>
        rw [za ha] at ih
        simp only [List.countP_cons, ha, hb, za ha, List.filter_cons]
        simpa using ih
      | false =>
        simp only [List.countP_cons, ha, hb, zb hb, za ha, List.filter_cons]
        simpa using fb hb
/-- two lists, place by place -/
def F2 (R : α → β → Prop) : List α → List β → Prop
  | [], [] => True
  | a :: xs, b :: ys => R a b ∧ F2 R xs ys
  | _, _ => False
variable {R : α → β → Prop}
theorem F2.length : ∀ {xs : List α} {ys : List β}, F2 R xs ys → xs.length = ys.length
  | [], [], _ => rfl
  | a :: xs, b :: ys, h => by simp [F2.length h.2]
  | [], b :: ys, h => h.elim
  | a :: xs, [], h => h.elim
theorem F2.imp {S : α → β → Prop} (f : ∀ a b, R a b → S a b) : ∀ {xs : List α} {ys : List β}, F2 R xs ys → F2 S xs ys
  | [], [], _ => trivial
  | a :: xs, b :: ys, h => ⟨f a b h.1, h.2.imp f⟩
  | [], b :: ys, h => h.elim
  | a :: xs, [], h => h.elim
theorem F2.app : ∀ {xs : List α} {ys : List β} {cs : List α} {ds : List β}, F2 R xs ys → F2 R cs ds → F2 R (xs ++ cs) (ys ++ ds)
  | [], [], _, _, _, k => k
  | a :: xs, b :: ys, _, _, h, k => ⟨h.1, h.2.app k⟩
  | [], b :: ys, _, _, h, _ => h.elim
  | a :: xs, [], _, _, h, _ => h.elim
theorem F2.take : ∀ (n : Nat) {xs : List α} {ys : List β}, F2 R xs ys → F2 R (xs.take n) (ys.take n)
  | 0, _, _, _ => trivial
  | n + 1, [], [], _ => trivial
  | n + 1, a :: xs, b :: ys, h => ⟨h.1, F2.take n h.2⟩
  | n + 1, [], b :: ys, h => h.elim
  | n + 1, a :: xs, [], h => h.elim
theorem F2.drop : ∀ (n : Nat) {xs : List α} {ys : List β}, F2 R xs ys → F2 R (xs.drop n) (ys.drop n)
  | 0, _, _, h => h
  | n + 1, [], [], _ => trivial
  | n + 1, a :: xs, b :: ys, h => F2.drop n h.2
  | n + 1, [], b :: ys, h => h.elim
  | n + 1, a :: xs, [], h => h.elim
theorem F2.modify (f : α → α) (g : β → β) (hf : ∀ a b, R a b → R (f a) (g b)) : ∀ (i : Nat) {xs : List α} {ys : List β}, F2 R xs ys → F2 R (xs.modify i f) (ys.modify i g)
  | _, [], [], _ => by simp [F2]
  | 0, a :: xs, b :: ys, h => by simp; exact ⟨hf _ _ h.1, h.2⟩
  | i + 1, a :: xs, b :: ys, h => by simp; exact ⟨h.1, F2.modify f g hf i h.2⟩
  | _, [], b :: ys, h => h.elim
  | _, a :: xs, [], h => h.elim
theorem F2.erase : ∀ (i : Nat) {xs : List α} {ys : List β}, F2 R xs ys → F2 R (xs.eraseIdx i) (ys.eraseIdx i)
  | _, [], [], _ => by simp [F2]
  | 0, a :: xs, b :: ys, h => by simp; exact h.2
  | i + 1, a :: xs, b :: ys, h => by simp; exact ⟨h.1, F2.erase i h.2⟩
  | _, [], b :: ys, h => h.elim
  | _, a :: xs, [], h => h.elim
theorem F2.at : ∀ {i : Nat} {xs : List α} {ys : List β} {a : α}, F2 R xs ys → xs[i]? = some a → ∃ b, ys[i]? = some b ∧ R a b
  | _, [], [], _, _, h => by cases h
  | 0, a :: xs, b :: ys, _, h, e => by simp at e; subst e; exact ⟨b, rfl, h.1⟩
  | i + 1, a :: xs, b :: ys, _, h, e => by simp at e; obtain ⟨x, h1, h2⟩ := F2.at h.2 e; exact ⟨x, by simpa using h1, h2⟩
  | _, [], b :: ys, _, h, _ => h.elim
  | _, a :: xs, [], _, h, _ => h.elim
theorem F2.filter (p : α → Bool) (q : β → Bool) (hpq : ∀ a b, R a b → p a = q b) : ∀ {xs : List α} {ys : List β}, F2 R xs ys → F2 R (xs.filter p) (ys.filter q)
  | [], [], _ => trivial
  | a :: xs, b :: ys, h => by
    rw [List.filter_cons, List.filter_cons, hpq a b h.1]
    split
    · exact ⟨h.1, F2.filter p q hpq h.2⟩
    · exact F2.filter p q hpq h.2
  | [], b :: ys, h => h.elim
  | a :: xs, [], h => h.elim
theorem F2.count (p : α → Bool) (q : β → Bool) (hpq : ∀ a b, R a b → p a = q b) : ∀ {xs : List α} {ys : List β}, F2 R xs ys → xs.countP p = ys.countP q
  | [], [], _ => rfl
  | a :: xs, b :: ys, h => by rw [List.countP_cons, List.countP_cons, hpq a b h.1, F2.count p q hpq h.2]
  | [], b :: ys, h => h.elim
  | a :: xs, [], h => h.elim
theorem F2.any (p : α → Bool) (q : β → Bool) (hpq : ∀ a b, R a b → p a = q b) : ∀ {xs : List α} {ys : List β}, F2 R xs ys → xs.any p = ys.any q
  | [], [], _ => rfl
  | a :: xs, b :: ys, h => by rw [List.any_cons, List.any_cons, hpq a b h.1, F2.any p q hpq h.2]
  | [], b :: ys, h => h.elim
  | a :: xs, [], h => h.elim
theorem F2.modify2 (i : Nat) (f : α → α) (g : β → β) {xs : List α} {ys : List β} (h : F2 R xs ys) (hf : ∀ a b, xs[i]? = some a → ys[i]? = some b → R a b → R (f a) (g b)) : F2 R (xs.modify i f) (ys.modify i g) := by
  induction xs generalizing ys i with
  | nil => cases ys with
    | nil => simp [F2]
    | cons b ys => exact h.elim
  | cons a xs ih => cases ys with
    | nil => exact h.elim
    | cons b ys => cases i with
      | zero => simp; exact ⟨hf a b rfl rfl h.1, h.2⟩
      | succ i => simp; exact ⟨h.1, ih i h.2 (fun x y h1 h2 => hf x y (by simpa using h1) (by simpa using h2))⟩
end
/-- a key and its bytes -/
abbrev KV := Int × List Int
def inR {α : Type} (lo hi : Int) (p : Int × α) : Bool := decide (lo ≤ p.1) && decide (p.1 ≤ hi)
theorem upto_count {α : Type} (c : α → Int) : ∀ xs : List α, xs.Pairwise (fun x y => 0 ≤ c y → 0 < c x) →
    xs.countP (fun x => decide (0 ≤ c x)) = xs.countP (fun x => decide (0 < c x)) + (if xs.any (fun x => decide (c x = 0)) then 1 else 0)
  | [], _ => by simp
  | x :: xs, h => by
    obtain ⟨h1, h2⟩ := List.pairwise_cons.1 h
    have ih := upto_count c xs h2
    by_cases hp : 0 < c x
    · have : 0 ≤ c x := by omega
      have hn : ¬ c x = 0 := by omega
      simp only [List.countP_cons, List.any_cons, hp, this, hn, decide_true, decide_false, if_true, Bool.false_or]
      rw [ih]; omega
    · have hall : ∀ y ∈ xs, c y < 0 := fun y hy => by
        have := h1 y hy; omega
      have z1 : xs.countP (fun x => decide (0 ≤ c x)) = 0 := List.countP_eq_zero.2 (fun y hy => by have := hall y hy; simp; omega)
      have z2 : xs.countP (fun x => decide (0 < c x)) = 0 := List.countP_eq_zero.2 (fun y hy => by have := hall y hy; simp; omega)
      have z3 : xs.any (fun x => decide (c x = 0)) = false := List.any_eq_false.2 (fun y hy => by have := hall y hy; simp; omega)
      by_cases h0 : c x = 0
      · simp [List.countP_cons, z1, z2, h0]
      · have : ¬ 0 ≤ c x := by omega
        simp [List.countP_cons, z1, z2, z3, h0, this, hp]
theorem sd_gt (k : Int) (p : Int × Sv) : 0 < sd k p ↔ p.1 < k := by simp only [sd, side, cmpI]; repeat' split; all_goals omega
theorem sd_ge (k : Int) (p : Int × Sv) : 0 ≤ sd k p ↔ p.1 ≤ k := by simp only [sd, side, cmpI]; repeat' split; all_goals omega
theorem sd_eq (k : Int) (p : Int × Sv) : sd k p = 0 ↔ p.1 = k := by simp only [sd, side, cmpI]; repeat' split; all_goals omega
theorem lowT_eq {t : T (Int × Sv)} (hs : Srt cmpI t.xs) (k : Int) : (T.fd (sd k) t).1 = t.xs.countP (fun p => decide (p.1 < k)) := by
  rw [T.fd_eq (sd k) t (hs.c cmpI_ord k)]
  exact List.countP_congr (fun p _ => by simp [sd_gt])
theorem hasT_eq {t : T (Int × Sv)} (hs : Srt cmpI t.xs) (k : Int) : (T.fd (sd k) t).2 = t.xs.any (fun p => decide (p.1 = k)) := by
  rw [T.fd_eq (sd k) t (hs.c cmpI_ord k)]
  show t.xs.any _ = _
  congr 1
  funext p
  simp [sd_eq]
theorem highT_eq {t : T (Int × Sv)} (hs : Srt cmpI t.xs) (k : Int) : highT k t = t.xs.countP (fun p => decide (p.1 ≤ k)) := by
  unfold highT
  rw [T.fd_eq (sd k) t (hs.c cmpI_ord k), ← upto_count (sd k) t.xs (hs.c cmpI_ord k)]
  exact List.countP_congr (fun p _ => by simp [sd_ge])
theorem seg_filter {t : T (Int × Sv)} (hs : Srt cmpI t.xs) (lo hi : Int) : seg t (lowT lo t) (highT hi t) = t.xs.filter (inR lo hi) := by
  have hl : lowT lo t = t.xs.countP (fun p => decide (p.1 < lo)) := lowT_eq hs lo
  have hp : t.xs.Pairwise (fun x y => (decide (y.1 < lo) = true → decide (x.1 < lo) = true) ∧ (decide (y.1 ≤ hi) = true → decide (x.1 ≤ hi) = true)) := by
    refine List.Pairwise.imp ?_ hs
    intro x y q
    have q : x.1 < y.1 := by simp only [cmpI] at q; repeat' split at q; all_goals omega
    simp only [decide_eq_true_eq]
    omega
  rw [seg_xs, hl, highT_eq hs, Int.toNat_natCast, Int.toNat_natCast, List.drop_take, mid_filter _ _ _ hp]
  refine List.filter_congr (fun p _ => ?_)
  unfold inR
  rw [Bool.eq_iff_iff]
  simp only [Bool.and_eq_true, Bool.not_eq_true', decide_eq_true_eq, decide_eq_false_iff_not]
  omega
theorem cnt_filter {t : T (Int × Sv)} (hs : Srt cmpI t.xs) (lo hi : Int) (h : lo ≤ hi) : highT hi t = lowT lo t + (t.xs.filter (inR lo hi)).length := by
  have h1 := seg_filter hs lo hi
  have hl : lowT lo t = t.xs.countP (fun p => decide (p.1 < lo)) := lowT_eq hs lo
  have hle : lowT lo t ≤ highT hi t := by
    rw [hl, highT_eq hs]
    exact List.countP_mono_left (fun p _ => by simp; omega)
  rw [← h1, seg_xs, List.length_drop, List.length_take, Int.toNat_natCast, Int.toNat_natCast, T.xs_length]
  have := highT_le (t := t) hi
  omega
/-- bytes xs cells -/
def cs (xs : List Int) : List Value := xs.map (Value.int .u8)
theorem cs_length (a : List Int) : (cs a).length = a.length := by simp [cs]
theorem cs_one (ys : List Int) : ∀ u ∈ cs ys, u.oneCell' = true := by
  intro u hu; obtain ⟨x, _, rfl⟩ := List.mem_map.1 hu; rfl
/-- a slice of bytes that can be read -/
def Rd (w : World) (u : Value) (ys : List Int) : Prop :=
  (u = .slice none 0 0 ∧ ys = []) ∨ ∃ a cap, u = .slice (some a) ys.length cap ∧ ∀ j x, (cs ys)[j]? = some x → w.cell? (a.add j) = some x
theorem Rd.slice {w : World} {u : Value} {ys : List Int} (h : Rd w u ys) : ∃ ad cap, u = .slice ad ys.length cap := by
  rcases h with ⟨rfl, rfl⟩ | ⟨a, cap, rfl, _⟩
  · exact ⟨none, 0, rfl⟩
  · exact ⟨_, cap, rfl⟩
theorem Rd.below {w w' : World} {u : Value} {ys : List Int} {B : Nat} (h : Rd w u ys) (hB : w.heap.size ≤ B) (k : Below B w w') : Rd w' u ys := by
  rcases h with ⟨rfl, rfl⟩ | ⟨a, cap, rfl, hc⟩
  · exact .inl ⟨rfl, rfl⟩
  · refine .inr ⟨a, cap, rfl, fun j x hj => ?_⟩
    have := hc j x hj
    exact (World.cell?_of_block (k.block _ (Nat.lt_of_lt_of_le (World.block_lt_of_cell? w _ this) hB))).trans this
theorem Rd.nu {w w' : World} {u : Value} {ys : List Int} (h : Rd w u ys) (k : Kp Nu w w') : Rd w' u ys := h.below (Nat.le_refl _) k.toBelow
theorem Rd.of_own {w : World} {v : Value} {n : Nat} {ys : List Int} {B : Nat} (h : w.ownsRow B 5 1 v n (cs ys)) : Rd w v ys := by
  have hl : ys.length = n := by have := h.1; rw [cs_length] at this; omega
  rcases h.2 with ⟨rfl, h0⟩ | ⟨g, cap, cur, rfl, hb', hg, h1, h2, h3, h4⟩
  · exact .inl ⟨rfl, List.eq_nil_of_length_eq_zero (by omega)⟩
  · refine .inr ⟨⟨g, 0, none⟩, cap, by rw [hl], fun j x hj => ?_⟩
    rw [← h4] at hj
    have hj2 : j < n * 1 := by
      have := (List.getElem?_eq_some_iff.1 hj).1
      rw [List.length_take] at this
      omega
    rw [List.getElem?_take_of_lt hj2] at hj
    rw [Addr.add_lit]
    simpa [World.cell?, hg] using hj
theorem info5 : (Try.prog.info? 5).map (fun i => (i.zero, i.size, i.bytes)) = some (some (.int .u8 0), 1, 1) := by kernel_rfl
theorem isNil74 (w : World) (n c : Nat) : (binOp .eql 74 (.slice none n c) (.slice none 0 0)).run Try.prog w = .ok (.bool true) w := by kernel_rfl
theorem notNil74 (w : World) (a : Addr) (n c : Nat) : (binOp .eql 74 (.slice (some a) n c) (.slice none 0 0)).run Try.prog w = .ok (.bool false) w := by kernel_rfl
set_option maxRecDepth 100000 in
set_option maxHeartbeats 1000000 in
/-- bytes.Clone of what can be read: a row of its own -/
theorem clone_any (w : World) (u : Value) (ys : List Int) (h : Rd w u ys) (hy : ys.length ≤ 3072) : Calls Try.prog 116 #[u] w fun e w' => ∃ v : Sv, e = .returned (.slice v.a v.n v.c) ∧ w'.ownsRow w.heap.size 5 1 (.slice v.a v.n v.c) ys.length (cs ys) ∧ Kp Nu w w' := by
  obtain ⟨i0, hi, hz0, hz1, hz2⟩ := info_parts info5
  rcases h with ⟨rfl, rfl⟩ | ⟨a, cap, rfl, hc⟩
  · have nn := isNil74
    go_enter Try.func116, Try.ntmps116
    go_wp2
    go_ret
    exact ⟨⟨none, 0, 0⟩, rfl, ⟨rfl, .inl ⟨rfl, rfl⟩⟩, Kp.refl _ _⟩
  have nn := notNil74
  have HC : Hid (∀ j x, (cs ys)[j]? = some x → (w.alloc (.cells #[] 5)).cell? (a.add j) = some x) := fun j x hj => by
    have := hc j x hj
    exact (World.cell?_of_block (Below.heap_alloc w _ _ (World.block_lt_of_cell? w _ this))).trans this
  have HY := hide hy
  clear hc hy
  go_enter Try.func116, Try.ntmps116
  go_wp2_with (at_builtin; refine wpList_append_own _ rfl _ _ 74 rfl w.heap.size 5 i0 (.int .u8 0) 1 1 Try.underlying74 hi hz0 hz1 hz2 rfl (by decide) _ _ _ rfl (World.ownsRow_made w #[] 0 (Nat.le_refl _) (Nat.zero_le _) rfl) a ys.length cap (cs ys) rfl ?qc1 ?qc2 ?qc3 ?qc4 ?qc5 ?qc6 ?_)
  case qc1 => simp [cs_length]
  case qc2 => exact HC.out
  case qc3 => exact cs_one ys
  case qc4 => have := HY.out; unfold maxLen; omega
  case qc5 => have := HY.out; omega
  case qc6 => simp
  intro v' w1 hown hgrow hnil
  have hown' : w1.ownsRow w.heap.size 5 1 v' ys.length (cs ys) := by simpa using hown
  obtain ⟨ad, cap2, rfl⟩ := own_slice hown'
  go_wp2
  go_ret
  refine ⟨⟨ad, ys.length, cap2⟩, rfl, hown', ?_⟩
  refine (Kp.alloc w _ Nu).trans (Kp.of_grown hgrow) (fun i hi e => ?_)
  simp [Value.ownBlock] at e
  omega
/-- they are bytes -/
def Byt (ys : List Int) : Prop := ∀ y ∈ ys, 0 ≤ y ∧ y ≤ 255
/-- as a string -/
def bstr (ys : List Int) : ByteArray := ⟨(ys.map fun y => UInt8.ofNat y.toNat).toArray⟩
theorem u8_back {y : Int} (h : 0 ≤ y ∧ y ≤ 255) : ((UInt8.ofNat y.toNat).toNat : Int) = y := by
  rw [UInt8.toNat_ofNat']
  have : y.toNat % 2 ^ 8 = y.toNat := Nat.mod_eq_of_lt (by omega)
  rw [this]; omega
theorem bstr_back {ys : List Int} (h : Byt ys) : (bstr ys).data.toList.map (fun b => (b.toNat : Int)) = ys := by
  simp only [bstr, List.map_map]
  refine (List.map_congr_left (g := id) fun y hy => ?_).trans (List.map_id ys)
  simpa using u8_back (h y hy)
/-- string(b) -/
theorem conv_rd {w : World} {u : Value} {ys : List Int} (h : Rd w u ys) (hb : Byt ys) : (convert 74 9 u).run Try.prog w = .ok (.string (bstr ys)) w := by
  rcases h with ⟨rfl, rfl⟩ | ⟨a, cap, rfl, hc⟩
  · kernel_rfl
  · have := run_convert_bytes_back (P := Try.prog) w 74 9 5 a cap (ys.map fun y => UInt8.ofNat y.toNat) Try.underlying74 Try.underlying5 Try.underlying9 (fun j hj => by
      have hj' : j < ys.length := by simpa using hj
      rw [List.getElem_map, u8_back (hb _ (List.getElem_mem hj'))]
      exact hc j _ (by simp [cs, hj']))
    simpa [bstr] using this
end Go.Proofs.Ytchealdgncgjoaa.StU
namespace Go.Proofs.Ytchealdgncgjoaa.StU
open Go.RowKit Go.Proofs.Ytchealdgncgjoaa.St
set_option linter.unusedVariables false
set_option linter.unusedSimpArgs false
/-- the document's side: keys in order, each with its bytes -/
def hs (k : Int) (M : List KV) : Bool := M.any (fun m => decide (m.1 = k))
def pl (k : Int) (M : List KV) : Nat := M.countP (fun m => decide (m.1 < k))
def putM (k : Int) (ys : List Int) (M : List KV) : List KV := if hs k M then M.modify (pl k M) (fun m => (m.1, ys)) else M.take (pl k M) ++ (k, ys) :: M.drop (pl k M)
def delM (k : Int) (M : List KV) : List KV := if hs k M then M.eraseIdx (pl k M) else M
def gtM (k : Int) (M : List KV) : List Int := if hs k M then (M[pl k M]?.map Prod.snd).getD [] else []
def sumB (M : List KV) : Nat := (M.map (fun m => m.2.length)).sum
theorem sumB_cons (m : KV) (M : List KV) : sumB (m :: M) = m.2.length + sumB M := by simp [sumB]
theorem sumB_app (A B : List KV) : sumB (A ++ B) = sumB A + sumB B := by simp [sumB]
theorem sumB_modify (f : KV → KV) : ∀ (M : List KV) (i : Nat) (m : KV), M[i]? = some m → sumB (M.modify i f) + m.2.length = sumB M + (f m).2.length
  | [], i, m, h => by simp at h
  | a :: M, 0, m, h => by simp at h; subst h; simp [sumB_cons]; omega
  | a :: M, i + 1, m, h => by
    have := sumB_modify f M i m (by simpa using h)
    simp [sumB_cons]; omega
theorem sumB_erase : ∀ (M : List KV) (i : Nat) (m : KV), M[i]? = some m → sumB (M.eraseIdx i) + m.2.length = sumB M
  | [], i, m, h => by simp at h
  | a :: M, 0, m, h => by simp at h; subst h; simp [sumB_cons]; omega
  | a :: M, i + 1, m, h => by
    have := sumB_erase M i m (by simpa using h)
    simp [sumB_cons]; omega
theorem sumB_le (M : List KV) (h : ∀ m ∈ M, m.2.length ≤ 64) : sumB M ≤ 64 * M.length := by
  induction M with
  | nil => simp [sumB]
  | cons a M ih =>
    have h1 := h a (by simp)
    have h2 := ih (fun m hm => h m (by simp [hm]))
    rw [sumB_cons, List.length_cons]; omega
theorem pl_le (k : Int) (M : List KV) : pl k M ≤ M.length := List.countP_le_length
theorem putM_length (k : Int) (ys : List Int) (M : List KV) : (putM k ys M).length = if hs k M then M.length else M.length + 1 := by
  unfold putM
  split
  · simp
  · have := pl_le k M
    simp; omega
/-- a pair xs the tree has it, and xs it is told -/
def FV (w : World) (p : Int × Sv) (m : KV) : Prop := p.1 = m.1 ∧ w.ownsRow 0 5 1 (.slice p.2.a p.2.n p.2.c) m.2.length (cs m.2) ∧ m.2.length ≤ 64 ∧ 0 ≤ m.1 ∧ m.1 ≤ 18446744073709551615 ∧ Byt m.2
theorem FV.n {w : World} {p : Int × Sv} {m : KV} (h : FV w p m) : p.2.n = m.2.length := by
  obtain ⟨ad, cap, e⟩ := own_slice h.2.1
  have := Value.slice.inj e
  exact this.2.1
theorem FV.rd {w : World} {p : Int × Sv} {m : KV} (h : FV w p m) : Rd w (.slice p.2.a p.2.n p.2.c) m.2 := Rd.of_own h.2.1
/-- a shelf in memory -/
structure Sh (w : World) (sb mb : Nat) (most : Int) (t : T (Int × Sv)) (M : List KV) : Prop where
  box : w.heap[sb]? = some (.cells #[.int .i64 most, .int .i64 (sumB M : Int), .pointer (some ⟨mb, 0, none⟩)] 172 (0, 0))
  m : Mp w mb t
  vs : F2 (FV w) t.xs M
  lm : (M.length : Int) ≤ most
  mo : most ≤ 32768
section
variable {w w' : World} {sb mb : Nat} {most : Int} {t : T (Int × Sv)} {M : List KV}
theorem F2.mem {α β : Type} {R : α → β → Prop} : ∀ {xs : List α} {zs : List β}, F2 R xs zs → ∀ b ∈ zs, ∃ a ∈ xs, R a b
  | [], [], _, b, hb => by cases hb
  | a :: xs, b :: zs, h, x, hx => by
    rcases List.mem_cons.1 hx with rfl | hx
    · exact ⟨a, by simp, h.1⟩
    · obtain ⟨y, h1, h2⟩ := F2.mem h.2 x hx
      exact ⟨y, by simp [h1], h2⟩
  | [], b :: zs, h, _, _ => h.elim
  | a :: xs, [], h, _, _ => h.elim
theorem Sh.sz (h : Sh w sb mb most t M) : t.sz = M.length := by rw [← T.xs_length]; exact h.vs.length
theorem Sh.small (h : Sh w sb mb most t M) : t.sz ≤ 32768 := by have := h.sz; have := h.lm; have := h.mo; omega
theorem Sh.sum (h : Sh w sb mb most t M) : sumB M ≤ 2097152 := by
  have := sumB_le M (fun m hm => by obtain ⟨p, _, hp⟩ := h.vs.mem m hm; exact hp.2.2.1)
  have := h.small; have := h.sz; omega
theorem hs_of (hv : F2 (FV w) t.xs M) (hsr : Srt cmpI t.xs) (k : Int) : (T.fd (sd k) t).2 = hs k M := by
  rw [hasT_eq hsr]
  exact hv.any _ _ (fun a b h => by rw [h.1])
theorem pl_of (hv : F2 (FV w) t.xs M) (hsr : Srt cmpI t.xs) (k : Int) : (T.fd (sd k) t).1 = pl k M := by
  rw [lowT_eq hsr]
  exact hv.count _ _ (fun a b h => by rw [h.1])
theorem Sh.hs (h : Sh w sb mb most t M) (k : Int) : (T.fd (sd k) t).2 = StU.hs k M := hs_of h.vs h.m.srt k
theorem Sh.pl (h : Sh w sb mb most t M) (k : Int) : (T.fd (sd k) t).1 = StU.pl k M := pl_of h.vs h.m.srt k
/-- a key that isn't there, or the pair at its place -/
theorem Sh.no (h : Sh w sb mb most t M) {k : Int} (hk : StU.hs k M = false) : getT k t = none := by
  unfold getT; rw [h.hs, hk]; rfl
theorem Sh.yes (h : Sh w sb mb most t M) {k : Int} (hk : StU.hs k M = true) : ∃ p m, getT k t = some p ∧ t.xs[StU.pl k M]? = some p ∧ M[StU.pl k M]? = some m ∧ FV w p m ∧ m.1 = k := by
  have h2 := h.hs k
  rw [hk] at h2
  obtain ⟨p, hp, eg⟩ := getT_some h2
  rw [h.pl] at hp
  obtain ⟨m, hm, hf⟩ := h.vs.at hp
  refine ⟨p, m, eg, hp, hm, hf, ?_⟩
  have h3 : t.xs.any (fun a => decide (side cmpI k a = 0)) = true := by
    rw [hasT_eq h.m.srt] at h2
    rw [← h2]; congr 1; funext a; have := sd_eq k a; simp only [sd] at this; simp [this]
  obtain ⟨p', hp', e'⟩ := h.m.srt.at cmpI_ord h3
  have e2 : t.xs.countP (fun a => decide (0 < side cmpI k a)) = StU.pl k M := by
    rw [← h.pl k, lowT_eq h.m.srt]
    exact List.countP_congr (fun p _ => by have := sd_gt k p; simp only [sd] at this; simp [this])
  rw [e2, hp] at hp'
  cases hp'
  have := (sd_eq k p).1 e'
  rw [← hf.1, this]
theorem gtM_yes {k : Int} {m : KV} (hk : StU.hs k M = true) (hm : M[StU.pl k M]? = some m) : gtM k M = m.2 := by unfold gtM; rw [if_pos hk, hm]; rfl
theorem gtM_no {k : Int} (hk : StU.hs k M = false) : gtM k M = [] := by unfold gtM; rw [hk]; rfl
/-- what stands where blocks of other types turn -/
theorem FV.keep {p : Int × Sv} {m : KV} {S : Nat → Prop} (h : FV w p m) (k : Kp S w w') (hS : ∀ i c, S i → w.heap[i]? ≠ some (.cells c 5 (0, 0))) : FV w' p m :=
  ⟨h.1, own_keep h.2.1 (fun g hg => by
    obtain ⟨cur, hc⟩ := own_obj h.2.1 hg
    exact k.block g (blk_lt hc) (fun hs => hS g cur hs hc)), h.2.2⟩
theorem Sh.keep {S : Nat → Prop} (h : Sh w sb mb most t M) (k : Kp S w w') (hS : ∀ i c ty, S i → w.heap[i]? = some (.cells c ty (0, 0)) → ty ≠ 5 ∧ ty ≠ 172 ∧ ty ≠ 208 ∧ ty ≠ 211) : Sh w' sb mb most t M := by
  obtain ⟨a, h1, h2⟩ := h.m.ex
  refine ⟨(k.block _ (blk_lt h.box) (fun hs => (hS _ _ _ hs h.box).2.1 rfl)).trans h.box, ⟨⟨a, (k.block _ (blk_lt h1) (fun hs => (hS _ _ _ hs h1).2.2.1 rfl)).trans h1, h2.keep (Kn.of k (fun b c hb hs => (hS _ _ _ hs hb).2.2.2 rfl))⟩, h.m.bal, h.m.srt⟩,
    h.vs.imp (fun p m hf => hf.keep k (fun i c hs hc => (hS _ _ _ hs hc).1 rfl)), h.lm, h.mo⟩
theorem Sh.nu (h : Sh w sb mb most t M) (k : Kp Nu w w') : Sh w' sb mb most t M := h.keep k (fun _ _ _ hs => hs.elim)
theorem Sh.ne (h : Sh w sb mb most t M) : sb ≠ mb := fun e => by
  obtain ⟨a, h1, _⟩ := h.m.ex
  have := h.box
  rw [e, h1] at this; cases this
/-- the tree's list behind a Put is the list behind it -/
theorem put_F2 {k : Int} {v : Sv} {ys : List Int} (h : Sh w sb mb most t M) (hv : F2 (FV w') t.xs M) (ho : w'.ownsRow 0 5 1 (.slice v.a v.n v.c) ys.length (cs ys)) (hy : ys.length ≤ 64) (hk0 : 0 ≤ k) (hk1 : k ≤ 18446744073709551615) (hby : Byt ys) : F2 (FV w') (putT k v t).xs (putM k ys M) := by
  rw [put_xs, h.hs, h.pl]
  unfold putM
  split
  · refine hv.modify _ _ (fun a b hf => ⟨hf.1, ho, hy, hf.2.2.2.1, hf.2.2.2.2.1, hby⟩) _
  · exact (hv.take _).app ⟨⟨rfl, ho, hy, hk0, hk1, hby⟩, hv.drop _⟩
theorem del_F2 {k : Int} (h : Sh w sb mb most t M) (hv : F2 (FV w') t.xs M) : F2 (FV w') (delT k t).xs (delM k M) := by
  rw [del_xs, h.hs, h.pl]
  unfold delM
  split
  · exact hv.erase _
  · exact hv
theorem putM_sum {k : Int} {ys : List Int} (h : Sh w sb mb most t M) : sumB (putM k ys M) + (gtM k M).length = sumB M + ys.length := by
  cases hk : StU.hs k M with
  | true =>
    obtain ⟨p, m, _, _, hm, _, _⟩ := h.yes hk
    rw [gtM_yes hk hm]
    unfold putM
    rw [if_pos hk]
    exact sumB_modify _ M _ m hm
  | false =>
    rw [gtM_no hk]
    unfold putM
    rw [if_neg (by rw [hk]; simp), sumB_app, sumB_cons]
    have : sumB M = sumB (M.take (StU.pl k M)) + sumB (M.drop (StU.pl k M)) := by rw [← sumB_app, List.take_append_drop]
    simp; omega
theorem delM_sum {k : Int} (h : Sh w sb mb most t M) : sumB (delM k M) + (gtM k M).length = sumB M := by
  cases hk : StU.hs k M with
  | true =>
    obtain ⟨p, m, _, _, hm, _, _⟩ := h.yes hk
    rw [gtM_yes hk hm]
    unfold delM
    rw [if_pos hk]
    exact sumB_erase M _ m hm
  | false =>
    rw [gtM_no hk]
    unfold delM
    rw [if_neg (by rw [hk]; simp)]
    simp
end
end Go.Proofs.Ytchealdgncgjoaa.StU
namespace Go.Proofs.Ytchealdgncgjoaa.StU
open Go.RowKit Go.Proofs.Ytchealdgncgjoaa.St
set_option linter.unusedVariables false
section
variable {w : World} {sb mb : Nat} {most : Int} {t : T (Int × Sv)} {M : List KV}
set_option maxHeartbeats 400000 in
theorem held_any (h : Sh w sb mb most t M) : Calls Try.prog 114 #[.pointer (some ⟨sb, 0, none⟩)] w fun e w' => e = .returned (.pointer (some ⟨mb, 0, none⟩)) ∧ w' = w := by
  have c2 := (cell3 h.box).2.2
  clear h
  go_enter Try.func114, Try.ntmps114
  go_wp2
  go_ret
  exact ⟨rfl, rfl⟩
set_option maxHeartbeats 400000 in
theorem made117 (h : Sh w sb mb most t M) : Calls Try.prog 117 #[.pointer (some ⟨sb, 0, none⟩)] w fun e w' => e = .returned (.bool true) ∧ w' = w := by
  have c2 := (cell3 h.box).2.2
  clear h
  go_enter Try.func117, Try.ntmps117
  go_wp2
  go_ret
  exact ⟨rfl, rfl⟩
set_option maxHeartbeats 400000 in
theorem slen_any (h : Sh w sb mb most t M) : Calls Try.prog 52 #[.pointer (some ⟨sb, 0, none⟩)] w fun e w' => e = .returned (.int .i64 (M.length : Int)) ∧ w' = w := by
  have HA := held_any h
  have LA := len_any h.m
  rw [h.sz] at LA
  clear h
  go_enter Try.func52, Try.ntmps52
  go_wp2_with (first
    | (go_at_call 114; refine HA.mono ?_; rintro e w' ⟨rfl, hw⟩; obtain rfl := hw.symm)
    | (go_at_call 125; refine LA.mono ?_; rintro e w' ⟨rfl, hw⟩; obtain rfl := hw.symm))
  go_ret
  exact ⟨rfl, rfl⟩
theorem kpN {S : Nat → Prop} {a w : World} (h : Kp S a w) (n : Nat) : Kp S a (w.drewN n) := ⟨h.os, h.tape, h.output, h.size, h.block⟩
set_option maxHeartbeats 1000000 in
theorem room_any (h : Sh w sb mb most t M) : Calls Try.prog 119 #[.pointer (some ⟨sb, 0, none⟩)] w fun e w' => e = .returned (.int .i64 (most - (M.length : Int))) ∧ ∃ n, w' = w.drewN n := by
  have mixed : Try.prog.follows .mixedOrders = true := by kernel_rfl
  have LA : ∀ n, Calls Try.prog 52 #[.pointer (some ⟨sb, 0, none⟩)] (w.drewN n) fun e w' => e = .returned (.int .i64 (M.length : Int)) ∧ w' = w.drewN n := fun n => slen_any (h.nu (kpN (Kp.refl Nu w) n))
  have c0 := (cell3 h.box).1
  have hl := h.lm
  have hm := h.mo
  obtain ⟨N, eN⟩ : ∃ N : Int, (M.length : Int) = N := ⟨_, rfl⟩
  rw [eN] at LA hl ⊢
  have hN0 : 0 ≤ N := by omega
  have q1 : wrap64 (most - N) = most - N := by unfold wrap64; omega
  have q2 : IntKind.i64.wrap (most - N) = most - N := by rw [IntKind.wrap_i64]; omega
  clear h eN hl hm hN0
  go_enter Try.func119, Try.ntmps119
  go_wp2_with fail
  go_quiet (first | (go_at_call 52; exact Calls.quiet_of_same (LA _)))
  go_wp2
  go_ret
  exact ⟨by first | rfl | rw [q1], _, rfl⟩
set_option maxHeartbeats 400000 in
theorem may_any (w : World) (ad : Option Addr) (n c : Nat) : Calls Try.prog 118 #[.slice ad n c] w fun e w' => e = .returned (.bool (decide ((n : Int) ≤ 64))) ∧ w' = w := by
  go_enter Try.func118, Try.ntmps118
  go_wp2
  go_ret
  exact ⟨rfl, rfl⟩
set_option maxRecDepth 100000 in
set_option maxHeartbeats 1000000 in
theorem get46 (h : Sh w sb mb most t M) (k : Int) : Calls Try.prog 46 #[.pointer (some ⟨sb, 0, none⟩), .int .u64 k] w fun e w' => ∃ v : Sv, e = .returned (.tuple #[.slice v.a v.n v.c, .bool (hs k M)]) ∧ w'.ownsRow w.heap.size 5 1 (.slice v.a v.n v.c) (gtM k M).length (cs (gtM k M)) ∧ Kp Nu w w' := by
  have HA := held_any h
  have GA := get_any h.m k (by have := h.small; omega)
  rw [h.hs] at GA
  have CA : ∃ ad n c, ov (getT k t) = .slice ad n c ∧ ∀ W, Kp Nu w W → Calls Try.prog 116 #[.slice ad n c] W fun e w' => ∃ v : Sv, e = .returned (.slice v.a v.n v.c) ∧ w'.ownsRow w.heap.size 5 1 (.slice v.a v.n v.c) (gtM k M).length (cs (gtM k M)) ∧ Kp Nu w w' := by
    cases hk : hs k M with
    | true =>
      obtain ⟨p, m, eg, _, hm, hf, _⟩ := h.yes hk
      refine ⟨p.2.a, p.2.n, p.2.c, by rw [eg]; rfl, fun W q => ?_⟩
      rw [gtM_yes hk hm]
      refine (clone_any W _ m.2 (hf.rd.nu q) (by have := hf.2.2.1; omega)).mono ?_
      rintro e w' ⟨v, e1, e2, e3⟩
      exact ⟨v, e1, own_base e2 q.size, q.andNu e3⟩
    | false =>
      refine ⟨none, 0, 0, by rw [h.no hk]; rfl, fun W q => ?_⟩
      rw [gtM_no hk]
      refine (clone_any W _ [] (.inl ⟨rfl, rfl⟩) (by simp)).mono ?_
      rintro e w' ⟨v, e1, e2, e3⟩
      exact ⟨v, e1, own_base e2 q.size, q.andNu e3⟩
  obtain ⟨ad, n, c, ec, CB⟩ := CA
  rw [ec] at GA
  clear h ec
  generalize (gtM k M).length = gl at *
  generalize cs (gtM k M) = gc at *
  generalize hs k M = b at *
  go_enter Try.func46, Try.ntmps46
  go_wp2_with (first
    | (go_at_call 114; refine HA.mono ?_; rintro e w' ⟨rfl, hw⟩; obtain rfl := hw.symm)
    | (go_at_call 115; refine GA.mono ?_; rintro e w1 ⟨rfl, k1⟩)
    | (go_at_call 116; refine (CB _ k1).mono ?_; rintro e w2 ⟨v, rfl, o2, k2⟩))
  go_ret2
  exact ⟨v, rfl, o2, k2⟩
end
end Go.Proofs.Ytchealdgncgjoaa.StU
