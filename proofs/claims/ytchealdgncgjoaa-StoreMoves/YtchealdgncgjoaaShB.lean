import Derived.Test.YtchealdgncgjoaaShA
namespace Go.Proofs.Ytchealdgncgjoaa.StU
open Go.RowKit Go.Proofs.Ytchealdgncgjoaa.St
set_option linter.unusedVariables false
set_option linter.unusedSimpArgs false
/-- the document's side: keys in order, each with its bytes -/
def hs (k : Int) (M : List KV) : Bool := M.any (fun m => decide (m.1 = k))
def pl (k : Int) (M : List KV) : Nat := M.countP (fun m => decide (m.1 < k))
def putM (k : Int) (ys : List Int) (M : List KV) : List KV := if hs k M then M.modify (pl k M) (fun m => (m.1, ys)) else M.take (pl k M) ++ (k, ys) :: M.drop (pl k M)
def delM (k : Int) (M : List KV) : List KV := if hs k M then M.eraseIdx (pl k M) else M
def gtM (k : Int) (M : List KV) : List Int := if hs k M then (M[pl k M]?.map Prod.snd).getD [] else []
def sumB (M : List KV) : Nat := (M.map (fun m => m.2.length)).sum
theorem sumB_cons (m : KV) (M : List KV) : sumB (m :: M) = m.2.length + sumB M := by simp [sumB]
theorem sumB_app (A B : List KV) : sumB (A ++ B) = sumB A + sumB B := by simp [sumB]
theorem sumB_modify (f : KV → KV) : ∀ (M : List KV) (i : Nat) (m : KV), M[i]? = some m → sumB (M.modify i f) + m.2.length = sumB M + (f m).2.length
  | [], i, m, h => by simp at h
  | a :: M, 0, m, h => by simp at h; subst h; simp [sumB_cons]; omega
  | a :: M, i + 1, m, h => by
    have := sumB_modify f M i m (by simpa using h)
    simp [sumB_cons]; omega
theorem sumB_erase : ∀ (M : List KV) (i : Nat) (m : KV), M[i]? = some m → sumB (M.eraseIdx i) + m.2.length = sumB M
  | [], i, m, h => by simp at h
  | a :: M, 0, m, h => by simp at h; subst h; simp [sumB_cons]; omega
  | a :: M, i + 1, m, h => by
    have := sumB_erase M i m (by simpa using h)
    simp [sumB_cons]; omega
theorem sumB_le (M : List KV) (h : ∀ m ∈ M, m.2.length ≤ 64) : sumB M ≤ 64 * M.length := by
  induction M with
  | nil => simp [sumB]
  | cons a M ih =>
    have h1 := h a (by simp)
    have h2 := ih (fun m hm => h m (by simp [hm]))
    rw [sumB_cons, List.length_cons]; omega
theorem pl_le (k : Int) (M : List KV) : pl k M ≤ M.length := List.countP_le_length
theorem putM_length (k : Int) (ys : List Int) (M : List KV) : (putM k ys M).length = if hs k M then M.length else M.length + 1 := by
  unfold putM
  split
  · simp
  · have := pl_le k M
    simp; omega
/-- a pair xs the tree has it, and xs it is told -/
def FV (w : World) (p : Int × Sv) (m : KV) : Prop := p.1 = m.1 ∧ w.ownsRow 0 5 1 (.slice p.2.a p.2.n p.2.c) m.2.length (cs m.2) ∧ m.2.length ≤ 64 ∧ 0 ≤ m.1 ∧ m.1 ≤ 18446744073709551615 ∧ Byt m.2
theorem FV.n {w : World} {p : Int × Sv} {m : KV} (h : FV w p m) : p.2.n = m.2.length := by
  obtain ⟨ad, cap, e⟩ := own_slice h.2.1
  have := Value.slice.inj e
  exact this.2.1
theorem FV.rd {w : World} {p : Int × Sv} {m : KV} (h : FV w p m) : Rd w (.slice p.2.a p.2.n p.2.c) m.2 := Rd.of_own h.2.1
/-- a shelf in memory -/
structure Sh (w : World) (sb mb : Nat) (most : Int) (t : T (Int × Sv)) (M : List KV) : Prop where
  box : w.heap[sb]? = some (.cells #[.int .i64 most, .int .i64 (sumB M : Int), .pointer (some ⟨mb, 0, none⟩)] 172 (0, 0))
  m : Mp w mb t
  vs : F2 (FV w) t.xs M
  lm : (M.length : Int) ≤ most
  mo : most ≤ 32768
section
variable {w w' : World} {sb mb : Nat} {most : Int} {t : T (Int × Sv)} {M : List KV}
theorem F2.mem {α β : Type} {R : α → β → Prop} : ∀ {xs : List α} {zs : List β}, F2 R xs zs → ∀ b ∈ zs, ∃ a ∈ xs, R a b
  | [], [], _, b, hb => by cases hb
  | a :: xs, b :: zs, h, x, hx => by
    rcases List.mem_cons.1 hx with rfl | hx
    · exact ⟨a, by simp, h.1⟩
    · obtain ⟨y, h1, h2⟩ := F2.mem h.2 x hx
      exact ⟨y, by simp [h1], h2⟩
  | [], b :: zs, h, _, _ => h.elim
  | a :: xs, [], h, _, _ => h.elim
theorem Sh.sz (h : Sh w sb mb most t M) : t.sz = M.length := by rw [← T.xs_length]; exact h.vs.length
theorem Sh.small (h : Sh w sb mb most t M) : t.sz ≤ 32768 := by have := h.sz; have := h.lm; have := h.mo; omega
theorem Sh.sum (h : Sh w sb mb most t M) : sumB M ≤ 2097152 := by
  have := sumB_le M (fun m hm => by obtain ⟨p, _, hp⟩ := h.vs.mem m hm; exact hp.2.2.1)
  have := h.small; have := h.sz; omega
theorem hs_of (hv : F2 (FV w) t.xs M) (hsr : Srt cmpI t.xs) (k : Int) : (T.fd (sd k) t).2 = hs k M := by
  rw [hasT_eq hsr]
  exact hv.any _ _ (fun a b h => by rw [h.1])
theorem pl_of (hv : F2 (FV w) t.xs M) (hsr : Srt cmpI t.xs) (k : Int) : (T.fd (sd k) t).1 = pl k M := by
  rw [lowT_eq hsr]
  exact hv.count _ _ (fun a b h => by rw [h.1])
theorem Sh.hs (h : Sh w sb mb most t M) (k : Int) : (T.fd (sd k) t).2 = StU.hs k M := hs_of h.vs h.m.srt k
theorem Sh.pl (h : Sh w sb mb most t M) (k : Int) : (T.fd (sd k) t).1 = StU.pl k M := pl_of h.vs h.m.srt k
/-- a key that isn't there, or the pair at its place -/
theorem Sh.no (h : Sh w sb mb most t M) {k : Int} (hk : StU.hs k M = false) : getT k t = none := by
  unfold getT; rw [h.hs, hk]; rfl
theorem Sh.yes (h : Sh w sb mb most t M) {k : Int} (hk : StU.hs k M = true) : ∃ p m, getT k t = some p ∧ t.xs[StU.pl k M]? = some p ∧ M[StU.pl k M]? = some m ∧ FV w p m ∧ m.1 = k := by
  have h2 := h.hs k
  rw [hk] at h2
  obtain ⟨p, hp, eg⟩ := getT_some h2
  rw [h.pl] at hp
  obtain ⟨m, hm, hf⟩ := h.vs.at hp
  refine ⟨p, m, eg, hp, hm, hf, ?_⟩
  have h3 : t.xs.any (fun a => decide (side cmpI k a = 0)) = true := by
    rw [hasT_eq h.m.srt] at h2
    rw [← h2]; congr 1; funext a; have := sd_eq k a; simp only [sd] at this; simp [this]
  obtain ⟨p', hp', e'⟩ := h.m.srt.at cmpI_ord h3
  have e2 : t.xs.countP (fun a => decide (0 < side cmpI k a)) = StU.pl k M := by
    rw [← h.pl k, lowT_eq h.m.srt]
    exact List.countP_congr (fun p _ => by have := sd_gt k p; simp only [sd] at this; simp [this])
  rw [e2, hp] at hp'
  cases hp'
  have := (sd_eq k p).1 e'
  rw [← hf.1, this]
theorem gtM_yes {k : Int} {m : KV} (hk : StU.hs k M = true) (hm : M[StU.pl k M]? = some m) : gtM k M = m.2 := by unfold gtM; rw [if_pos hk, hm]; rfl
theorem gtM_no {k : Int} (hk : StU.hs k M = false) : gtM k M = [] := by unfold gtM; rw [hk]; rfl
/-- what stands where blocks of other types turn -/
theorem FV.keep {p : Int × Sv} {m : KV} {S : Nat → Prop} (h : FV w p m) (k : Kp S w w') (hS : ∀ i c, S i → w.heap[i]? ≠ some (.cells c 5 (0, 0))) : FV w' p m :=
  ⟨h.1, own_keep h.2.1 (fun g hg => by
    obtain ⟨cur, hc⟩ := own_obj h.2.1 hg
    exact k.block g (blk_lt hc) (fun hs => hS g cur hs hc)), h.2.2⟩
theorem Sh.keep {S : Nat → Prop} (h : Sh w sb mb most t M) (k : Kp S w w') (hS : ∀ i c ty, S i → w.heap[i]? = some (.cells c ty (0, 0)) → ty ≠ 5 ∧ ty ≠ 172 ∧ ty ≠ 208 ∧ ty ≠ 211) : Sh w' sb mb most t M := by
  obtain ⟨a, h1, h2⟩ := h.m.ex
  refine ⟨(k.block _ (blk_lt h.box) (fun hs => (hS _ _ _ hs h.box).2.1 rfl)).trans h.box, ⟨⟨a, (k.block _ (blk_lt h1) (fun hs => (hS _ _ _ hs h1).2.2.1 rfl)).trans h1, h2.keep (Kn.of k (fun b c hb hs => (hS _ _ _ hs hb).2.2.2 rfl))⟩, h.m.bal, h.m.srt⟩,
    h.vs.imp (fun p m hf => hf.keep k (fun i c hs hc => (hS _ _ _ hs hc).1 rfl)), h.lm, h.mo⟩
theorem Sh.nu (h : Sh w sb mb most t M) (k : Kp Nu w w') : Sh w' sb mb most t M := h.keep k (fun _ _ _ hs => hs.elim)
theorem Sh.ne (h : Sh w sb mb most t M) : sb ≠ mb := fun e => by
  obtain ⟨a, h1, _⟩ := h.m.ex
  have := h.box
  rw [e, h1] at this; cases this
/-- the tree's list behind a Put is the list behind it -/
theorem put_F2 {k : Int} {v : Sv} {ys : List Int} (h : Sh w sb mb most t M) (hv : F2 (FV w') t.xs M) (ho : w'.ownsRow 0 5 1 (.slice v.a v.n v.c) ys.length (cs ys)) (hy : ys.length ≤ 64) (hk0 : 0 ≤ k) (hk1 : k ≤ 18446744073709551615) (hby : Byt ys) : F2 (FV w') (putT k v t).xs (putM k ys M) := by
  rw [put_xs, h.hs, h.pl]
  unfold putM
  split
  · refine hv.modify _ _ (fun a b hf => ⟨hf.1, ho, hy, hf.2.2.2.1, hf.2.2.2.2.1, hby⟩) _
  · exact (hv.take _).app ⟨⟨rfl, ho, hy, hk0, hk1, hby⟩, hv.drop _⟩
theorem del_F2 {k : Int} (h : Sh w sb mb most t M) (hv : F2 (FV w') t.xs M) : F2 (FV w') (delT k t).xs (delM k M) := by
  rw [del_xs, h.hs, h.pl]
  unfold delM
  split
  · exact hv.erase _
  · exact hv
theorem putM_sum {k : Int} {ys : List Int} (h : Sh w sb mb most t M) : sumB (putM k ys M) + (gtM k M).length = sumB M + ys.length := by
  cases hk : StU.hs k M with
  | true =>
    obtain ⟨p, m, _, _, hm, _, _⟩ := h.yes hk
    rw [gtM_yes hk hm]
    unfold putM
    rw [if_pos hk]
    exact sumB_modify _ M _ m hm
  | false =>
    rw [gtM_no hk]
    unfold putM
    rw [if_neg (by rw [hk]; simp), sumB_app, sumB_cons]
    have : sumB M = sumB (M.take (StU.pl k M)) + sumB (M.drop (StU.pl k M)) := by rw [← sumB_app, List.take_append_drop]
    simp; omega
theorem delM_sum {k : Int} (h : Sh w sb mb most t M) : sumB (delM k M) + (gtM k M).length = sumB M := by
  cases hk : StU.hs k M with
  | true =>
    obtain ⟨p, m, _, _, hm, _, _⟩ := h.yes hk
    rw [gtM_yes hk hm]
    unfold delM
    rw [if_pos hk]
    exact sumB_erase M _ m hm
  | false =>
    rw [gtM_no hk]
    unfold delM
    rw [if_neg (by rw [hk]; simp)]
    simp
end
end Go.Proofs.Ytchealdgncgjoaa.StU
