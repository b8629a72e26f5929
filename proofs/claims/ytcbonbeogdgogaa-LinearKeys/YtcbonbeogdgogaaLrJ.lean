import Derived.Test.YtcbonbeogdgogaaLrH
namespace Go.Proofs.Ytcbonbeogdgogaa.Li
open Go.RowKit
set_option linter.unusedVariables false
/-- an order as the program has it -/
def oi (o : List Nat) : List Int := o.map (fun (x : Nat) => (x : Int))
theorem oi_len (o : List Nat) : (oi o).length = o.length := by simp [oi]
theorem oi_at (o : List Nat) (j : Nat) : (oi o)[j]? = (o[j]?).map (fun (x : Nat) => (x : Int)) := by simp [oi]
theorem oi_mem (o : List Nat) (k : Nat) : (k : Int) ∈ oi o ↔ k ∈ o := by
  simp only [oi, List.mem_map]
  constructor
  · rintro ⟨a, ha, e⟩
    have : a = k := by omega
    exact this ▸ ha
  · intro h
    exact ⟨k, h, rfl⟩
theorem oi_app (a b : List Nat) : oi (a ++ b) = oi a ++ oi b := by simp [oi]
theorem oi_of {o : List Int} (h : ∀ x ∈ o, 0 ≤ x) : ∃ e, oi e = o := by
  refine ⟨o.map Int.toNat, ?_⟩
  unfold oi
  rw [List.map_map]
  conv => rhs; rw [← List.map_id o]
  refine List.map_congr_left (fun x hx => ?_)
  have := h x hx
  simp
  omega
theorem pl_get {x : Option (List Int)} : ∀ {C : List (Option (List Int))} {a : Nat}, pl C x = some a → C[a]? = some x
  | [], a, h => by simp [pl] at h
  | y :: C, a, h => by
    unfold pl at h
    split at h
    · rename_i e
      cases h
      simp [e]
    · obtain ⟨b, hb, rfl⟩ := Option.map_eq_some_iff.1 h
      simpa using pl_get hb
theorem pl_in {x : Option (List Int)} : ∀ {C : List (Option (List Int))}, x ∈ C → ∃ a, pl C x = some a
  | [], h => by cases h
  | y :: C, h => by
    unfold pl
    split
    · exact ⟨0, rfl⟩
    · rename_i e
      rcases List.mem_cons.1 h with h | h
      · exact absurd h.symm e
      · obtain ⟨a, ha⟩ := pl_in h
        exact ⟨a + 1, by rw [ha]; rfl⟩
theorem exe_in (k : Int) (has : Bool) (V O : List Int) (on : Option (List Int)) : (exe k has V O on).2 = on ∨ (exe k has V O on).2 = none ∨ (exe k has V O on).2 = some V := by
  unfold exe
  repeat' split
  all_goals simp
theorem stpc_in {c : Ca} {on r : Option (List Int)} (h : stpc c on = some r) : r = on ∨ r = none ∨ r = some c.V := by
  unfold stpc stp at h
  have q := exe_in c.k c.has c.V c.O on
  split at h
  · split at h
    · cases h; exact .inr (.inl rfl)
    · cases h
  · split at h
    · cases h; exact q
    · split at h
      · cases h; exact q
      · cases h
theorem cvs_none (L : List Ca) : none ∈ cvs L := by simp [cvs, cqs, q0, Cv.o, opt]
theorem cvs_val {L : List Ca} {c : Ca} (h : c ∈ L) : some c.V ∈ cvs L := by
  simp only [cvs, cqs, List.map_cons, List.map_map, List.mem_cons, List.mem_map]
  exact .inr ⟨c, h, rfl⟩
/-- calls of one key that may be, no Scans -/
structure One (L : List Ca) (key : Int) : Prop where
  mb : AllMB L
  one : ∀ c ∈ L, ¬ c.k = 5 ∧ c.key = key
/-- a way through the search -/
structure Pt (L : List Ca) (key : Int) (o : List Nat) (st at_ : Nat) : Prop where
  bit : ∀ k, st.testBit k = true ↔ k ∈ o
  lst : Lst L (oi o) o.length
  inT : InT L (oi o) o.length
  clo : ∀ y ∈ o, ∀ c, L[y]? = some c → ∀ k a, L[k]? = some a → bef a c → k ∈ o
  run : ∃ f, run L (oi o) (fun _ => none) = some f ∧ (cvs L)[at_]? = some (f key)
theorem Pt.start (L : List Ca) (key : Int) : Pt L key [] 0 0 :=
  ⟨fun k => by simp, fun j x hj => by simp at hj, fun p q x y c d hp => by simp at hp, (fun y hy => by cases hy), ⟨_, rfl, rfl⟩⟩
theorem schOf_T {L : List Ca} {k i : Nat} {c : Ca} (h : L[k]? = some c) : (schOf L).T k i = stT (cvs L) c i := by
  show (match L[k]? with | none => none | some c => stT (cvs L) c i) = _
  rw [h]
theorem schOf_B {L : List Ca} {k : Nat} {c : Ca} (h : L[k]? = some c) : (schOf L).B k = bset (befs L c) L.length := by
  show (match L[k]? with | none => 0 | some c => bset (befs L c) L.length) = _
  rw [h]
theorem take_snocN (o : List Nat) (k j : Nat) (hj : j ≤ o.length) : (oi (o ++ [k])).take j = (oi o).take j := by
  rw [oi_app, List.take_append_of_le_length (by rw [oi_len]; exact hj)]
theorem Pt.step {L : List Ca} {key : Int} (hO : One L key) {o : List Nat} {st at_ k a : Nat} (h : Pt L key o st at_) (hm : (schOf L).may st k) (hT : (schOf L).T k at_ = some a) : Pt L key (o ++ [k]) (st ||| 2 ^ k) a := by
  obtain ⟨hk, hbit, hsub⟩ := hm
  have hk : k < L.length := hk
  obtain ⟨c, hc⟩ : ∃ c, L[k]? = some c := ⟨_, List.getElem?_eq_getElem hk⟩
  have hcm := hO.one c (List.mem_of_getElem? hc)
  have hko : k ∉ o := fun e => by have := (h.bit k).2 e; rw [hbit] at this; cases this
  rw [schOf_B hc] at hsub
  have hcl : ∀ j b, L[j]? = some b → bef b c → j ∈ o := fun j b hj hb => by
    have hjl := (List.getElem?_eq_some_iff.1 hj).1
    exact (h.bit j).1 (hsub j ((bset_bit _ _ _).2 ⟨hjl, (befs_iff hj).2 hb⟩))
  have get : ∀ j, j < o.length → (oi (o ++ [k]))[j]? = (oi o)[j]? := fun j hj => by
    rw [oi_app, List.getElem?_append_left (by rw [oi_len]; exact hj)]
  have last : (oi (o ++ [k]))[o.length]? = some (k : Int) := by
    rw [oi_at]
    simp
  have hlen : (o ++ [k]).length = o.length + 1 := by simp
  refine ⟨fun j => ?_, fun j x hj hx => ?_, fun p q x y c1 d1 hp hq hx hy h1 h2 => ?_, fun y hy d hd j b hj hb => ?_, ?_⟩
  · rw [put_bit, Bool.or_eq_true, h.bit, decide_eq_true_eq, List.mem_append, List.mem_singleton]
    exact ⟨fun q => q.imp id Eq.symm, fun q => q.imp id Eq.symm⟩
  · rw [hlen] at hj
    by_cases e : j = o.length
    · subst e
      rw [last] at hx
      cases hx
      refine ⟨by omega, ⟨c, by simpa using hc, hcm.1⟩, ?_⟩
      rw [take_snocN o k _ (Nat.le_refl _), List.take_of_length_le (by rw [oi_len]; exact Nat.le_refl _), oi_mem]
      exact hko
    · rw [get j (by omega)] at hx
      obtain ⟨q1, q2, q3⟩ := h.lst j x (by omega) hx
      refine ⟨q1, q2, ?_⟩
      rw [take_snocN o k j (by omega)]
      exact q3
  · rw [hlen] at hp
    by_cases e : p = o.length
    · subst e
      rw [last] at hx
      cases hx
      rw [get q hq] at hy
      have e1 : c1 = c := by
        have : L[k]? = some c1 := by simpa using h1
        rw [hc] at this
        cases this
        rfl
      subst e1
      intro hb
      have hy2 : y.toNat ∈ o := by
        rw [oi_at] at hy
        obtain ⟨z, hz, rfl⟩ := Option.map_eq_some_iff.1 hy
        have := List.mem_of_getElem? hz
        simpa using this
      exact hko (h.clo _ hy2 d1 h2 k c1 hc hb)
    · rw [get p (by omega)] at hx
      rw [get q (by omega)] at hy
      exact h.inT p q x y c1 d1 (by omega) hq hx hy h1 h2
  · refine List.mem_append.2 (.inl ?_)
    rcases List.mem_append.1 hy with hy | hy
    · exact h.clo y hy d hd j b hj hb
    · have e := List.mem_singleton.1 hy
      subst e
      rw [hc] at hd
      cases hd
      exact hcl j b hj hb
  · obtain ⟨f, hf, hat⟩ := h.run
    rw [schOf_T hc] at hT
    unfold stT at hT
    rw [hat] at hT
    obtain ⟨r, hr, hp⟩ := Option.bind_eq_some_iff.1 hT
    have hr : stpc c (f key) = some r := hr
    refine ⟨upd f key r, ?_, ?_⟩
    · rw [oi_app]
      show Li.run L (oi o ++ [(k : Int)]) _ = _
      rw [run_snoc, hf]
      show Li.run L [(k : Int)] f = _
      have e : ((k : Int)).toNat = k := by omega
      simp only [Li.run, e, hc, hcm.2, hr]
    · rw [pl_get hp]
      simp [upd]
/-- what the search finds obeys -/
theorem Fir.obs {L : List Ca} {key : Int} (hO : One L key) {st at_ : Nat} {e : List Nat} (h : Fir (schOf L) st at_ e) : ∀ o, Pt L key o st at_ → Obs L (oi (o ++ e)) := by
  induction h with
  | done hs =>
    intro o hP
    rw [List.append_nil]
    refine ⟨hO.mb, by rw [oi_len]; exact hP.lst, fun j c hj hc h1 h2 => ?_, by rw [oi_len]; exact hP.inT, by obtain ⟨f, hf, _⟩ := hP.run; rw [hf]; rfl⟩
    rw [oi_mem]
    exact (hP.bit j).1 (hs j ((bset_bit _ _ _).2 ⟨hj, (kns_iff hc).2 h1⟩))
  | step k a e h1 h2 h3 h4 h5 ih =>
    intro o hP
    have := ih _ (hP.step hO h2 h3)
    rw [List.append_assoc] at this
    exact this
/-- what obeys is a way of the search -/
theorem can_of {L : List Ca} {key : Int} (hO : One L key) : ∀ (e o : List Nat) (st at_ : Nat), Pt L key o st at_ → Obs L (oi (o ++ e)) → Can (schOf L) st at_
  | [], o, st, at_, hP, hB => .done (fun k hk => by
    obtain ⟨hkl, hkn⟩ := (bset_bit _ _ _).1 hk
    obtain ⟨c, hc⟩ : ∃ c, L[k]? = some c := ⟨_, List.getElem?_eq_getElem hkl⟩
    have := hB.whl k c hkl hc ((kns_iff hc).1 hkn) (hO.one c (List.mem_of_getElem? hc)).1
    rw [List.append_nil, oi_mem] at this
    exact (hP.bit k).2 this)
  | k :: e, o, st, at_, hP, hB => by
    have hat : (oi (o ++ k :: e))[o.length]? = some (k : Int) := by rw [oi_at]; simp
    have hlen : o.length < (oi (o ++ k :: e)).length := by rw [oi_len]; simp
    obtain ⟨_, ⟨c, hc, hc5⟩, hnot⟩ := hB.lst _ _ hlen hat
    have hc : L[k]? = some c := by simpa using hc
    have hk := (List.getElem?_eq_some_iff.1 hc).1
    have etake : (oi (o ++ k :: e)).take o.length = oi o := by
      rw [oi_app, List.take_append_of_le_length (by rw [oi_len]; exact Nat.le_refl _), List.take_of_length_le (by rw [oi_len]; exact Nat.le_refl _)]
    rw [etake, oi_mem] at hnot
    have hm : (schOf L).may st k := by
      refine ⟨hk, by
        cases hb : st.testBit k with
        | false => rfl
        | true => exact absurd ((hP.bit k).1 hb) hnot, fun j hj => ?_⟩
      rw [schOf_B hc] at hj
      obtain ⟨hjl, hjb⟩ := (bset_bit _ _ _).1 hj
      obtain ⟨b, hb⟩ : ∃ b, L[j]? = some b := ⟨_, List.getElem?_eq_getElem hjl⟩
      have hbef := (befs_iff hb).1 hjb
      have hmem := hB.whl j b hjl hb hbef.1 (hO.one b (List.mem_of_getElem? hb)).1
      rw [oi_mem] at hmem
      rcases List.mem_append.1 hmem with hmem | hmem
      · exact (hP.bit j).2 hmem
      · exfalso
        obtain ⟨p, hp⟩ := List.getElem?_of_mem hmem
        by_cases e0 : p = 0
        · subst e0
          simp at hp
          subst hp
          rw [hc] at hb
          cases hb
          have hq := (hO.mb c (List.mem_of_getElem? hc)).out
          rcases hq with ⟨q, _⟩ | ⟨q, _⟩
          · exact hbef.1 q
          · have := hbef.2
            omega
        · have hp2 : (oi (o ++ k :: e))[o.length + p]? = some (j : Int) := by
            rw [oi_at, List.getElem?_append_right (by omega), Nat.add_sub_cancel_left, hp]
            rfl
          have hpl := (List.getElem?_eq_some_iff.1 hp2).1
          exact hB.inT (o.length + p) o.length _ _ b c hpl (by omega) hp2 hat (by simpa using hb) (by simpa using hc) hbef
    obtain ⟨f, hf, hat2⟩ := hP.run
    have hkey := (hO.one c (List.mem_of_getElem? hc)).2
    obtain ⟨r, hr⟩ : ∃ r, stpc c (f key) = some r := by
      have hrun := hB.run
      have e1 : oi (o ++ k :: e) = (oi o ++ [(k : Int)]) ++ oi e := by rw [oi_app]; simp [oi]
      rw [e1] at hrun
      cases hs : stpc c (f key) with
      | some r => exact ⟨r, rfl⟩
      | none =>
        exfalso
        have e2 : run L (oi o ++ [(k : Int)]) (fun _ => none) = none := by
          rw [run_snoc, hf]
          show run L [(k : Int)] f = _
          have e : ((k : Int)).toNat = k := by omega
          simp only [run, e, hc, hkey, hs]
        have e3 : ∀ (t s : List Int) g, run L s g = none → run L (s ++ t) g = none := by
          intro t s
          induction s with
          | nil => intro g hg; cases hg
          | cons x s ih =>
            intro g hg
            simp only [run, List.cons_append] at hg ⊢
            cases hx : L[x.toNat]? with
            | none => rfl
            | some d =>
              rw [hx] at hg
              simp only at hg ⊢
              cases hy : stpc d (g d.key) with
              | none => rfl
              | some r =>
                rw [hy] at hg
                exact ih _ hg
        rw [e3 _ _ _ e2] at hrun
        cases hrun
    obtain ⟨a, ha⟩ : ∃ a, pl (cvs L) r = some a := pl_in (by
      rcases stpc_in hr with e | e | e
      · rw [e]; exact List.mem_of_getElem? hat2
      · rw [e]; exact cvs_none L
      · rw [e]; exact cvs_val (List.mem_of_getElem? hc))
    have hT : (schOf L).T k at_ = some a := by
      rw [schOf_T hc]
      unfold stT
      rw [hat2]
      show (stpc c (f key)).bind _ = _
      rw [hr]
      exact ha
    refine .step k a hm hT (can_of hO e (o ++ [k]) _ a (hP.step hO hm hT) ?_)
    rw [List.append_assoc]
    exact hB
theorem schOf_ok (L : List Ca) (h : L.length ≤ 16) : (schOf L).Ok := by
  refine ⟨h, by show L.length + 1 ≤ 17; omega, bset_lt _ _, fun k hk => ?_, fun k i a hk hi ha => ?_⟩
  · obtain ⟨c, hc⟩ : ∃ c, L[k]? = some c := ⟨_, List.getElem?_eq_getElem hk⟩
    rw [schOf_B hc]
    exact bset_lt _ _
  · obtain ⟨c, hc⟩ : ∃ c, L[k]? = some c := ⟨_, List.getElem?_eq_getElem hk⟩
    rw [schOf_T hc] at ha
    obtain ⟨r, _, hp⟩ := Option.bind_eq_some_iff.1 ha
    have := (List.getElem?_eq_some_iff.1 (pl_get hp)).1
    show a < L.length + 1
    simpa [cvs, cqs] using this
end Go.Proofs.Ytcbonbeogdgogaa.Li
