import Derived.Test.YtchealdgncgjoaaMvC
namespace Go.Proofs.Ytchealdgncgjoaa.StU
open Go.RowKit Go.Proofs.Ytchealdgncgjoaa.St Go.Shelf
set_option linter.unusedVariables false
theorem spot_none1 {w : World} {a : Addr} {u : Value} (h : w.cell? a = some u) : a.spot = none := by
  unfold World.cell? at h
  split at h
  · split at h
    · cases h
    · rename_i _ hs; simpa using hs
  · cases h
/-- what bytes, keys and lists are: no cells of a shelf's own blocks -/
def Frn : Value → Prop
  | .int .u8 _ => True
  | .int .u64 _ => True
  | .slice _ _ _ => True
  | _ => False
theorem Sh.frn {w : World} {sb mb : Nat} {most : Int} {t : T (Int × Sv)} {M : List KV} (h : Sh w sb mb most t M) {a : Addr} {u : Value} (hc : w.cell? a = some u) (hu : Frn u) : ¬ Sm sb mb a.block := fun hs => by
  have hsp := spot_none1 hc
  obtain ⟨b, o, sp⟩ := a
  simp only at hsp
  subst hsp
  obtain ⟨am, hn1, _⟩ := h.m.ex
  rcases hs with e | e
  · have e : b = sb := e
    subst e
    have hb := h.box
    simp only [World.cell?, hb] at hc
    match o, hc with
    | 0, hc => simp at hc; subst hc; exact hu.elim
    | 1, hc => simp at hc; subst hc; exact hu.elim
    | 2, hc => simp at hc; subst hc; exact hu.elim
    | o + 3, hc => simp at hc
  · have e : b = mb := e
    subst e
    simp only [World.cell?, hn1] at hc
    match o, hc with
    | 0, hc => simp at hc; subst hc; exact hu.elim
    | 1, hc => simp at hc; subst hc; exact hu.elim
    | o + 2, hc => simp at hc
theorem Sh.cellk {w w' : World} {sb mb : Nat} {most : Int} {t : T (Int × Sv)} {M : List KV} (h : Sh w sb mb most t M) (k : Kp (Sm sb mb) w w') {a : Addr} {u : Value} (hc : w.cell? a = some u) (hu : Frn u) : w'.cell? a = some u :=
  (World.cell?_of_block (k.block _ (World.block_lt_of_cell? w _ hc) (h.frn hc hu))).trans hc
theorem Sh.rdk {w w' : World} {sb mb : Nat} {most : Int} {t : T (Int × Sv)} {M : List KV} (h : Sh w sb mb most t M) (k : Kp (Sm sb mb) w w') {u : Value} {ys : List Int} (hr : Rd w u ys) : Rd w' u ys := by
  rcases hr with ⟨rfl, rfl⟩ | ⟨a, cap, rfl, hc⟩
  · exact .inl ⟨rfl, rfl⟩
  · refine .inr ⟨a, cap, rfl, fun j x hj => h.cellk k (hc j x hj) ?_⟩
    have : x ∈ cs ys := List.mem_of_getElem? hj
    obtain ⟨y, _, rfl⟩ := List.mem_map.1 this
    trivial
theorem Sh.wpk {w w' : World} {sb mb : Nat} {most : Int} {t : T (Int × Sv)} {M : List KV} (h : Sh w sb mb most t M) (k : Kp (Sm sb mb) w w') {v : Value} {S : List Pg} (hw : Wp w v S) : Wp w' v S := by
  obtain ⟨ad, cap, e, hc⟩ := hw
  refine ⟨ad, cap, e, fun i s hs => ?_⟩
  obtain ⟨b, off, e1, c0, c1, c2, c3⟩ := hc i s hs
  exact ⟨b, off, e1, h.cellk k c0 trivial, h.cellk k c1 trivial, h.rdk k c2, c3⟩
theorem Wp.nu {w w' : World} {v : Value} {S : List Pg} (hw : Wp w v S) (k : Kp Nu w w') : Wp w' v S := by
  obtain ⟨ad, cap, e, hc⟩ := hw
  refine ⟨ad, cap, e, fun i s hs => ?_⟩
  obtain ⟨b, off, e1, c0, c1, c2, c3⟩ := hc i s hs
  exact ⟨b, off, e1, cell_nu c0 k, cell_nu c1 k, c2.nu k, c3⟩
/-- pairs laid in -/
def layM (S : List Pg) (M : List KV) : List KV := S.foldl (fun M s => putM s.k s.ys M) M
theorem layM_snoc (S : List Pg) (s : Pg) (M : List KV) : layM (S ++ [s]) M = putM s.k s.ys (layM S M) := by simp [layM]
theorem layM_le : ∀ (S : List Pg) (M : List KV), (layM S M).length ≤ M.length + S.length
  | [], M => Nat.le_refl _
  | s :: S, M => by
    have h1 := layM_le S (putM s.k s.ys M)
    have h2 := putM_length s.k s.ys M
    show (layM S (putM s.k s.ys M)).length ≤ _
    rw [List.length_cons]
    split at h2 <;> omega
section
variable {w : World} {sb mb : Nat} {most : Int} {t : T (Int × Sv)} {M : List KV}
set_option maxRecDepth 100000 in
set_option maxHeartbeats 2000000 in
theorem lay_any (h : Sh w sb mb most t M) (v : Value) (S : List Pg) (hS : Wp w v S) (hsl : S.length ≤ 4398046511104) : Calls Try.prog 64 #[.pointer (some ⟨sb, 0, none⟩), v] w fun e w' => ∃ c, e = .returned (.int .i64 c) ∧ BarR S M most c ∧ (∃ t', Sh w' sb mb most t' (if c = 0 then layM S M else M)) ∧ Kp (Sm sb mb) w w' := by
  have BA := bars_any h v S hS hsl
  have HW := hS
  obtain ⟨ad, cap, rfl, hc⟩ := hS
  obtain ⟨N, eN⟩ : ∃ N, S.length = N := ⟨_, rfl⟩
  rw [eN] at hsl
  have HH := hide (And.intro h (And.intro eN (And.intro hsl HW)))
  rw [eN] at BA ⊢
  clear h hc hsl HW
  by_cases hz : ∃ c, BarR S M most c ∧ c ≠ 0
  · obtain ⟨c0, hc0, hcn⟩ := hz
    have BA2 : Calls Try.prog 131 #[.pointer (some ⟨sb, 0, none⟩), .slice ad N cap] w fun e w' => e = .returned (.int .i64 c0) ∧ Kp Nu w w' := by
      refine BA.mono ?_
      rintro e w' ⟨c, e1, e2, e3⟩
      have : c = c0 := by
        rcases e2 with ⟨a1, rfl⟩ | ⟨a1, ⟨s, hs1, hs2⟩, rfl⟩ | ⟨a1, a2, ⟨s, hs1, hs2⟩, rfl⟩ | ⟨a1, a2, a3, a4, rfl⟩ | ⟨a1, a2, a3, a4, rfl⟩ <;>
          rcases hc0 with ⟨b1, rfl⟩ | ⟨b1, ⟨q, hq1, hq2⟩, rfl⟩ | ⟨b1, b2, ⟨q, hq1, hq2⟩, rfl⟩ | ⟨b1, b2, b3, b4, rfl⟩ | ⟨b1, b2, b3, b4, rfl⟩ <;>
          first
            | rfl
            | exact absurd b1 a1
            | exact absurd a1 b1
            | exact absurd rfl hcn
            | (have := a2 _ hq1; omega)
            | (have := b2 _ hs1; omega)
            | (have := a3 _ hq1; rw [hq2] at this; cases this)
            | (have := b3 _ hs1; rw [hs2] at this; cases this)
            | omega
      exact ⟨by rw [e1, this], e3⟩
    have hnz : (c0 != 0) = true := by simpa using hcn
    have HC := hide (And.intro hc0 hcn)
    clear BA hc0 hcn
    go_enter Try.func64, Try.ntmps64
    go_wp2_with (go_at_call 131; refine BA2.mono ?_; rintro e w1 ⟨rfl, k1⟩)
    go_ret
    exact ⟨_, rfl, HC.out.1, ⟨t, by rw [if_neg HC.out.2]; exact HH.out.1.nu k1⟩, k1.mono (fun _ _ e => e.elim)⟩
  · have BA2 : Calls Try.prog 131 #[.pointer (some ⟨sb, 0, none⟩), .slice ad N cap] w fun e w' => e = .returned (.int .i64 0) ∧ Hid (BarR S M most 0 ∧ Kp Nu w w') := by
      refine BA.mono ?_
      rintro e w' ⟨c, e1, e2, e3⟩
      have : c = 0 := by
        rcases Decidable.em (c = 0) with h | h
        · exact h
        · exact absurd ⟨c, e2, h⟩ hz
      rw [this] at e1 e2
      exact ⟨e1, e2, e3⟩
    clear BA hz
    go_enter Try.func64, Try.ntmps64
    go_wp2_with (go_at_call 131; refine BA2.mono ?_; rintro e w1 ⟨rfl, H1⟩)
    go_loopw [16] (fun it wr => ∃ i : Nat, it = .int .i64 (i : Int) ∧ i ≤ N ∧ Hid (∃ t', Sh wr sb mb most t' (layM (S.take i) M) ∧ Kp (Sm sb mb) w wr)) (fun it _ => N - (intOf it).toNat)
    case atStart => exact ⟨0, rfl, Nat.zero_le _, t, HH.out.1.nu H1.out.2, H1.out.2.mono (fun _ _ e => e.elim)⟩
    case round =>
      obtain ⟨i, rfl, hi, HI⟩ := hrel
      obtain ⟨t', hsh, kwr⟩ := HI.out
      by_cases hlt : i < N
      · obtain ⟨s, hsi⟩ : ∃ s, S[i]? = some s := ⟨_, List.getElem?_eq_getElem (by rw [HH.out.2.1]; exact hlt)⟩
        obtain ⟨ad', cap', e', hcell⟩ := HH.out.1.wpk kwr HH.out.2.2.2
        cases e'
        obtain ⟨b, off, ead, c0, c1, hrd, hby, hk0, hk1, hyl⟩ := hcell i s hsi
        have hmem := List.mem_of_getElem? hsi
        obtain ⟨sk, ⟨sa, sn, sc⟩, sy⟩ := s
        have hbar : sy.length ≤ 64 ∧ (M.length : Int) + (N : Int) ≤ most := by
          rcases H1.out.1 with ⟨_, h⟩ | ⟨_, _, h⟩ | ⟨_, _, _, h⟩ | ⟨_, _, _, _, h⟩ | ⟨_, h2, _, h4, _⟩
          · cases h
          · cases h
          · cases h
          · cases h
          · rw [HH.out.2.1] at h4; exact ⟨h2 _ hmem, h4⟩
        have ka := Kp.alloc wr (.cells #[.int .u64 sk, .slice sa sn sc] 78) Nu
        obtain ⟨x0, x1⟩ := cell2 (heap_alloc_new wr (.cells #[.int .u64 sk, .slice sa sn sc] 78))
        have e : layM (S.take (i + 1)) M = putM sk sy (layM (S.take i) M) := by
          rw [List.take_add_one, hsi]
          exact layM_snoc _ _ _
        have hll := layM_le (S.take i) M
        have hlti : (S.take i).length ≤ i := by rw [List.length_take]; omega
        have SA := set_ok (hsh.nu ka) sk hk0 hk1 _ sy (hrd.nu ka) hbar.1 hby (.inr (by have := hbar.2; omega))
        rw [← e] at SA
        have hltI : (i : Int) < (N : Int) := by omega
        have hi00 : (0 : Int) ≤ (i : Int) := by omega
        have hwi : wrap64 ((i : Int) + 1) = ((i + 1 : Nat) : Int) := by have := HH.out.2.2.1; unfold wrap64; omega
        have HW := hide (And.intro hlt (And.intro hwi (kwr.andNu ka)))
        subst ead
        generalize (!StU.hs sk (layM (S.take i) M)) = bb at *
        clear hsi hcell hrd hby hk0 hk1 hyl hmem hbar hsh kwr ka e hll hlti HI hlt hi hwi
        go_wp2_with (go_at_call 47; refine SA.mono ?_; rintro e w3 ⟨rfl, h3, k3⟩)
        have HF : Hid (∃ t', Sh w3 sb mb most t' (layM (S.take (i + 1)) M) ∧ Kp (Sm sb mb) w w3) := by
          obtain ⟨v', _, e1⟩ := h3
          exact ⟨_, e1, HW.out.2.2.trans k3 (fun _ _ e => e)⟩
        clear h3 k3 SA
        go_wp2
        exact ⟨⟨i + 1, by rw [HW.out.2.1], HW.out.1, HF⟩, lt_mi HW.out.2.1 HW.out.1⟩
      · obtain rfl : i = N := by omega
        rw [List.take_of_length_le (by rw [HH.out.2.1]; exact Nat.le_refl _)] at hsh
        have hnl : ¬ (i : Int) < (i : Int) := by omega
        have HZ := hide (And.intro hsh kwr)
        clear hsh kwr HI hlt hi
        go_wp2
        go_ret
        exact ⟨0, rfl, H1.out.1, ⟨t', by rw [if_pos rfl]; exact HZ.out.1⟩, HZ.out.2⟩
end
end Go.Proofs.Ytchealdgncgjoaa.StU
