import Derived.Test.YtchealdgncgjoaaRtP
import Derived.Test.YtchealdgncgjoaaRtS
import Derived.Test.YtchealdgncgjoaaRsN
import Derived.Test.YtchealdgncgjoaaRsO
namespace Go.Proofs.Ytchealdgncgjoaa.StU
open Go.RowKit Go.Proofs.Ytchealdgncgjoaa.St Go.Shelf
set_option linter.unusedVariables false
set_option linter.unusedSimpArgs false
/-- only blocks of G turn, and no node -/
def Kg (G : Nat → Prop) (w w' : World) : Prop := Kp (fun i => G i ∧ ∀ c m, w.heap[i]? ≠ some (.cells c 211 m)) w w'
theorem Kg.nu {G : Nat → Prop} {w w' : World} (k : Kp Nu w w') : Kg G w w' := Kp.mono k (fun _ _ e => e.elim)
theorem Kg.trans {G : Nat → Prop} {a b c : World} (h : Kg G a b) (k : Kg G b c) : Kg G a c := Kp.trans h k (fun i hi hT => ⟨hT.1, fun cc m e => by
  have hb := h.block i hi (fun hs => hs.2 cc m e)
  exact hT.2 cc m (hb.trans e)⟩)
theorem Kg.mono {G G' : Nat → Prop} {a b : World} (h : Kg G a b) (hg : ∀ i, i < a.heap.size → G i → G' i) : Kg G' a b := Kp.mono h (fun i hi hs => ⟨hg i hi hs.1, hs.2⟩)
theorem Kg.of {S G : Nat → Prop} {a b : World} (k : Kp S a b) (hS : ∀ i, i < a.heap.size → S i → G i ∧ ∀ c m, a.heap[i]? ≠ some (.cells c 211 m)) : Kg G a b := Kp.mono k hS
theorem Kg.toBelow {G : Nat → Prop} {a b : World} (h : Kg G a b) (B : Nat) (hB : B ≤ a.heap.size) (hG : ∀ i, G i → B ≤ i) : Below B a b := Kp.below h B hB (fun i hs => hG i hs.1)
theorem F2.imp2 {α β : Type} {R S : α → β → Prop} : ∀ {xs : List α} {zs : List β}, F2 R xs zs → (∀ a b, a ∈ xs → R a b → S a b) → F2 S xs zs
  | [], [], _, _ => trivial
  | a :: xs, b :: zs, h, f => ⟨f a b (by simp) h.1, F2.imp2 h.2 (fun x y hx => f x y (by simp [hx]))⟩
  | [], b :: zs, h, _ => h.elim
  | a :: xs, [], h, _ => h.elim
theorem FV.keep2 {S : Nat → Prop} {w w' : World} {p : Int × Sv} {m : KV} (h : FV w p m) (k : Kp S w w') (hS : ∀ g, (sl p.2).ownBlock = some g → ¬ S g) : FV w' p m :=
  ⟨h.1, own_keep h.2.1 (fun g hg => k.block g (own_lt h.2.1 hg) (hS g hg)), h.2.2⟩
/-- a shelf that is none, or how many pairs it may have and which it has -/
abbrev Om := Option (Int × List KV)
def Ps (w : World) (a : Value) (G : Nat → Prop) : Om → Prop
  | none => a = .pointer none
  | some x => ∃ sb mb t, a = .pointer (some ⟨sb, 0, none⟩) ∧ Sh w sb mb x.1 t x.2 ∧ G sb ∧ G mb ∧ ∀ p ∈ t.xs, ∀ g, (sl p.2).ownBlock = some g → G g
def Ds (w : World) (b : Value) (G : Nat → Prop) : Om → Prop
  | none => b = .pointer none
  | some x => ∃ rb v L, b = .pointer (some ⟨rb, 0, none⟩) ∧ Rs w rb x.1 v L x.2 ∧ G rb ∧ (∀ g, (sl v).ownBlock = some g → G g) ∧ ∀ p ∈ L, ∀ g, (sl p.2).ownBlock = some g → G g
section
variable {w w' : World} {a b : Value} {G G' T : Nat → Prop} {o : Om}
theorem Ps.keep (h : Ps w a G o) (k : Kg T w w') (hd : ∀ i, i < w.heap.size → T i → ¬ G i) : Ps w' a G o := by
  cases o with
  | none => exact h
  | some x =>
    obtain ⟨sb, mb, t, e, hs, g1, g2, g3⟩ := h
    obtain ⟨ad, h1, h2⟩ := hs.m.ex
    exact ⟨sb, mb, t, e, ⟨(k.block _ (blk_lt hs.box) (fun q => hd _ (blk_lt hs.box) q.1 g1)).trans hs.box, ⟨⟨ad, (k.block _ (blk_lt h1) (fun q => hd _ (blk_lt h1) q.1 g2)).trans h1, h2.keep (Kn.of k (fun b c hb q => q.2 _ _ hb))⟩, hs.m.bal, hs.m.srt⟩, hs.vs.imp2 (fun p m hp hf => hf.keep2 k (fun g hg q => hd g (own_lt hf.2.1 hg) q.1 (g3 p hp g hg))), hs.lm, hs.mo⟩, g1, g2, g3⟩
theorem Ds.keep (h : Ds w b G o) (k : Kg T w w') (hd : ∀ i, i < w.heap.size → T i → ¬ G i) : Ds w' b G o := by
  cases o with
  | none => exact h
  | some x =>
    obtain ⟨rb, v, L, e, hs, g1, g2, g3⟩ := h
    exact ⟨rb, v, L, e, ⟨(k.block _ (blk_lt hs.box) (fun q => hd _ (blk_lt hs.box) q.1 g1)).trans hs.box, own_keep hs.own (fun g hg => k.block g (own_lt hs.own hg) (fun q => hd g (own_lt hs.own hg) q.1 (g2 g hg))), hs.f.imp2 (fun p m hp hf => hf.keep2 k (fun g hg q => hd g (own_lt hf.2.1 hg) q.1 (g3 p hp g hg))), hs.ris, hs.lm, hs.mo⟩, g1, g2, g3⟩
theorem Ps.nu (h : Ps w a G o) (k : Kp Nu w w') : Ps w' a G o := h.keep (T := fun _ => False) (Kg.nu k) (fun _ _ e => e.elim)
theorem Ds.nu (h : Ds w b G o) (k : Kp Nu w w') : Ds w' b G o := h.keep (T := fun _ => False) (Kg.nu k) (fun _ _ e => e.elim)
theorem Ps.mono (h : Ps w a G o) (hg : ∀ i, i < w.heap.size → G i → G' i) : Ps w a G' o := by
  cases o with
  | none => exact h
  | some x =>
    obtain ⟨sb, mb, t, e, hs, g1, g2, g3⟩ := h
    obtain ⟨ad, h1, h2⟩ := hs.m.ex
    refine ⟨sb, mb, t, e, hs, hg _ (blk_lt hs.box) g1, hg _ (blk_lt h1) g2, fun p hp g hgg => ?_⟩
    obtain ⟨i, hi⟩ := List.mem_iff_getElem?.1 hp
    obtain ⟨m, _, hf⟩ := hs.vs.at hi
    exact hg _ (own_lt hf.2.1 hgg) (g3 p hp g hgg)
theorem Ds.mono (h : Ds w b G o) (hg : ∀ i, i < w.heap.size → G i → G' i) : Ds w b G' o := by
  cases o with
  | none => exact h
  | some x =>
    obtain ⟨rb, v, L, e, hs, g1, g2, g3⟩ := h
    refine ⟨rb, v, L, e, hs, hg _ (blk_lt hs.box) g1, fun g hgg => hg _ (own_lt hs.own hgg) (g2 g hgg), fun p hp g hgg => ?_⟩
    obtain ⟨i, hi⟩ := List.mem_iff_getElem?.1 hp
    obtain ⟨m, _, hf⟩ := hs.f.at hi
    exact hg _ (own_lt hf.2.1 hgg) (g3 p hp g hgg)
/-- the blocks behind a call: those of before, and new ones -/
abbrev Gn (G : Nat → Prop) (w : World) (i : Nat) : Prop := G i ∨ w.heap.size ≤ i
def oSetA (o : Om) (k : Int) (ys : List Int) : Bool × Int := match o with
  | none => (false, 1)
  | some x => setA x.1 k ys x.2
def oSet (o : Om) (k : Int) (ys : List Int) : Om := o.map (fun x => (x.1, setM x.1 k ys x.2))
theorem Ps.set (h : Ps w a G o) (k : Int) (hk0 : 0 ≤ k) (hk1 : k ≤ 18446744073709551615) (u : Value) (ys : List Int) (hu : Rd w u ys) (hby : Byt ys) : Calls Try.prog 47 #[a, .int .u64 k, u] w fun e w' => e = .returned (.tuple #[.bool (oSetA o k ys).1, .int .i64 (oSetA o k ys).2]) ∧ Hid (Ps w' a (Gn G w) (oSet o k ys) ∧ Kg G w w') := by
  cases o with
  | none =>
    obtain rfl : a = .pointer none := h
    refine (nset47 w k u).mono ?_
    rintro e w' ⟨rfl, hw⟩
    obtain rfl := hw
    exact ⟨rfl, rfl, Kg.nu (Kp.refl _ _)⟩
  | some x =>
    obtain ⟨sb, mb, t, rfl, hs, g1, g2, g3⟩ := h
    obtain ⟨ad, h1, h2⟩ := hs.m.ex
    refine (pset47 hs k hk0 hk1 u ys hu hby).mono ?_
    rintro e w' ⟨rfl, H⟩
    obtain ⟨⟨t', f1, f2⟩, f3⟩ := H.out
    refine ⟨rfl, ⟨sb, mb, t', rfl, f1, .inl g1, .inl g2, fun p hp g hg => ?_⟩, Kg.of f3 (fun i hi e => ?_)⟩
    · rcases f2 p hp with h3 | h3
      · exact .inl (g3 p h3 g hg)
      · exact .inr (h3 g hg)
    · rcases e with rfl | rfl
      · exact ⟨g1, fun c m e => by rw [hs.box] at e; cases e⟩
      · exact ⟨g2, fun c m e => by rw [h1] at e; cases e⟩
theorem Ds.set (h : Ds w b G o) (k : Int) (hk0 : 0 ≤ k) (hk1 : k ≤ 18446744073709551615) (u : Value) (ys : List Int) (hu : Rd w u ys) (hby : Byt ys) : Calls Try.prog 137 #[b, .int .u64 k, u] w fun e w' => e = .returned (.tuple #[.bool (oSetA o k ys).1, .int .i64 (oSetA o k ys).2]) ∧ Hid (Ds w' b (Gn G w) (oSet o k ys) ∧ Kg G w w') := by
  cases o with
  | none =>
    obtain rfl : b = .pointer none := h
    refine (set_nil137 w k u).mono ?_
    rintro e w' ⟨rfl, hw⟩
    obtain rfl := hw
    exact ⟨rfl, rfl, Kg.nu (Kp.refl _ _)⟩
  | some x =>
    obtain ⟨rb, v, L, rfl, hs, g1, g2, g3⟩ := h
    refine (rset137 hs k hk0 hk1 u ys hu hby).mono ?_
    rintro e w' ⟨rfl, H⟩
    obtain ⟨⟨v', L', f1, f2, f3⟩, f4⟩ := H.out
    refine ⟨rfl, ⟨rb, v', L', rfl, f1, .inl g1, fun g hg => ?_, fun p hp g hg => ?_⟩, Kg.of f4 (fun i hi e => ?_)⟩
    · rcases f3 g hg with h3 | h3
      · exact .inl (g2 g h3)
      · exact .inr h3
    · rcases f2 p hp with h3 | h3
      · exact .inl (g3 p h3 g hg)
      · exact .inr (h3 g hg)
    · rcases e with rfl | e
      · exact ⟨g1, fun c m e => by rw [hs.box] at e; cases e⟩
      · obtain ⟨cur, hc⟩ := own_obj hs.own e.symm
        exact ⟨g2 _ e.symm, fun c m e => by rw [hc] at e; cases e⟩
def oHs (o : Om) (k : Int) : Bool := match o with
  | none => false
  | some x => hs k x.2
def oGt (o : Om) (k : Int) : List Int := match o with
  | none => []
  | some x => gtM k x.2
theorem Ps.get (h : Ps w a G o) (k : Int) : Calls Try.prog 46 #[a, .int .u64 k] w fun e w' => ∃ v : Sv, e = .returned (.tuple #[.slice v.a v.n v.c, .bool (oHs o k)]) ∧ w'.ownsRow w.heap.size 5 1 (.slice v.a v.n v.c) (oGt o k).length (cs (oGt o k)) ∧ Kp Nu w w' := by
  cases o with
  | none =>
    obtain rfl : a = .pointer none := h
    exact nget46 w k
  | some x =>
    obtain ⟨sb, mb, t, rfl, hs, _⟩ := h
    exact get46 hs k
theorem Ds.get (h : Ds w b G o) (k : Int) : Calls Try.prog 140 #[b, .int .u64 k] w fun e w' => ∃ v : Sv, e = .returned (.tuple #[.slice v.a v.n v.c, .bool (oHs o k)]) ∧ w'.ownsRow w.heap.size 5 1 (.slice v.a v.n v.c) (oGt o k).length (cs (oGt o k)) ∧ Kp Nu w w' := by
  cases o with
  | none =>
    obtain rfl : b = .pointer none := h
    refine (get_nil140 w k).mono ?_
    rintro e w' ⟨rfl, hw⟩
    obtain rfl := hw
    exact ⟨⟨none, 0, 0⟩, rfl, own_nil', Kp.refl _ _⟩
  | some x =>
    obtain ⟨rb, v, L, rfl, hs, _⟩ := h
    exact get140 hs k
theorem Ps.byt (h : Ps w a G o) (k : Int) : Byt (oGt o k) ∧ (oGt o k).length ≤ 64 := by
  cases o with
  | none => exact ⟨fun y hy => by simp [oGt] at hy, by simp [oGt]⟩
  | some x =>
    obtain ⟨sb, mb, t, rfl, hs, _⟩ := h
    show Byt (gtM k x.2) ∧ (gtM k x.2).length ≤ 64
    cases hk : StU.hs k x.2 with
    | true =>
      obtain ⟨p, m, eg, _, hm, hf, _⟩ := hs.yes hk
      rw [gtM_yes hk hm]
      exact ⟨hf.2.2.2.2.2, hf.2.2.1⟩
    | false => rw [gtM_no hk]; exact ⟨fun y hy => by simp at hy, by simp⟩
theorem cut_del {M : List KV} (h : Ris M) (k : Int) : delM k M = cutM k k M := by
  rw [del_filter h]
  refine List.filter_congr (fun m _ => ?_)
  unfold inR
  rw [Bool.eq_iff_iff]
  simp
  omega
def oCut (o : Om) (lo hi : Int) : Om := o.map (fun x => (x.1, cutM lo hi x.2))
theorem Ps.del (h : Ps w a G o) (k : Int) : Calls Try.prog 130 #[a, .int .u64 k] w fun e w' => e = .returned (.bool (oHs o k)) ∧ Hid (Ps w' a (Gn G w) (oCut o k k) ∧ Kg G w w') := by
  cases o with
  | none =>
    obtain rfl : a = .pointer none := h
    refine (ndel130 w k).mono ?_
    rintro e w' ⟨rfl, hw⟩
    obtain rfl := hw
    exact ⟨rfl, rfl, Kg.nu (Kp.refl _ _)⟩
  | some x =>
    obtain ⟨sb, mb, t, rfl, hs, g1, g2, g3⟩ := h
    obtain ⟨ad, h1, h2⟩ := hs.m.ex
    refine (del130v hs k).mono ?_
    rintro e w' ⟨rfl, ⟨t', f1, f2⟩, f3⟩
    rw [cut_del hs.ris] at f1
    refine ⟨rfl, ⟨sb, mb, t', rfl, f1, .inl g1, .inl g2, fun p hp g hg => .inl (g3 p (f2 p hp) g hg)⟩, Kg.of f3 (fun i hi e => ?_)⟩
    rcases e with rfl | rfl
    · exact ⟨g1, fun c m e => by rw [hs.box] at e; cases e⟩
    · exact ⟨g2, fun c m e => by rw [h1] at e; cases e⟩
theorem Ds.del (h : Ds w b G o) (k : Int) : Calls Try.prog 141 #[b, .int .u64 k] w fun e w' => e = .returned (.bool (oHs o k)) ∧ Hid (Ds w' b (Gn G w) (oCut o k k) ∧ Kg G w w') := by
  cases o with
  | none =>
    obtain rfl : b = .pointer none := h
    refine (del_nil141 w k).mono ?_
    rintro e w' ⟨rfl, hw⟩
    obtain rfl := hw
    exact ⟨rfl, rfl, Kg.nu (Kp.refl _ _)⟩
  | some x =>
    obtain ⟨rb, v, L, rfl, hs, g1, g2, g3⟩ := h
    refine (rdel141v hs k).mono ?_
    rintro e w' ⟨rfl, ⟨v', L', f1, f2, f3⟩, f4⟩
    refine ⟨rfl, ⟨rb, v', L', rfl, f1, .inl g1, fun g hg => ?_, fun p hp g hg => .inl (g3 p (f2 p hp) g hg)⟩, Kg.of f4 (fun i hi e => ?_)⟩
    · rcases f3 with rfl | h3
      · exact .inl (g2 g hg)
      · exact .inr (h3 g hg)
    · have e : i = rb := e
      rw [e]
      exact ⟨g1, fun c m e => by rw [hs.box] at e; cases e⟩
def oM (o : Om) : List KV := match o with
  | none => []
  | some x => x.2
theorem Ps.len (h : Ps w a G o) : Calls Try.prog 52 #[a] w fun e w' => e = .returned (.int .i64 ((oM o).length : Int)) ∧ w' = w := by
  cases o with
  | none => obtain rfl : a = .pointer none := h; exact nlen52 w
  | some x => obtain ⟨sb, mb, t, rfl, hs, _⟩ := h; exact slen_any hs
theorem Ds.len (h : Ds w b G o) : Calls Try.prog 142 #[b] w fun e w' => e = .returned (.int .i64 ((oM o).length : Int)) ∧ w' = w := by
  cases o with
  | none => obtain rfl : b = .pointer none := h; exact len_nil142 w
  | some x => obtain ⟨rb, v, L, rfl, hs, _⟩ := h; exact len142 hs
theorem Ps.bytes (h : Ps w a G o) : Calls Try.prog 65 #[a] w fun e w' => e = .returned (.int .i64 (sumB (oM o) : Int)) ∧ w' = w := by
  cases o with
  | none => obtain rfl : a = .pointer none := h; exact nbytes65 w
  | some x => obtain ⟨sb, mb, t, rfl, hs, _⟩ := h; exact bytes65 hs
theorem Ds.bytes (h : Ds w b G o) : Calls Try.prog 143 #[b] w fun e w' => e = .returned (.int .i64 (sumB (oM o) : Int)) ∧ w' = w := by
  cases o with
  | none => obtain rfl : b = .pointer none := h; exact bytes_nil143 w
  | some x => obtain ⟨rb, v, L, rfl, hs, _⟩ := h; exact rbytes143 hs
theorem Ps.count (h : Ps w a G o) (lo hi : Int) : Calls Try.prog 54 #[a, .int .u64 lo, .int .u64 hi] w fun e w' => e = .returned (.int .i64 ((rg lo hi (oM o)).length : Int)) ∧ Kp Nu w w' := by
  cases o with
  | none =>
    obtain rfl : a = .pointer none := h
    exact (ncount54 w lo hi).mono fun e w' ⟨e1, e2⟩ => ⟨e1, by rw [e2]; exact Kp.refl _ _⟩
  | some x => obtain ⟨sb, mb, t, rfl, hs, _⟩ := h; exact count_any54 hs lo hi
theorem Ds.count (h : Ds w b G o) (lo hi : Int) : Calls Try.prog 144 #[b, .int .u64 lo, .int .u64 hi] w fun e w' => e = .returned (.int .i64 ((rg lo hi (oM o)).length : Int)) ∧ Kp Nu w w' := by
  cases o with
  | none =>
    obtain rfl : b = .pointer none := h
    exact (count_nil144 w lo hi).mono fun e w' ⟨e1, e2⟩ => ⟨e1, by rw [e2]; exact Kp.refl _ _⟩
  | some x => obtain ⟨rb, v, L, rfl, hs, _⟩ := h; exact count144 hs lo hi
theorem Ps.dig (h : Ps w a G o) (lo hi : Int) : Calls Try.prog 51 #[a, .int .u64 lo, .int .u64 hi] w fun e w' => e = .returned (.int .u64 (Cd.fv f0 (pbs (rg lo hi (oM o))))) ∧ Kp Nu w w' := by
  cases o with
  | none => obtain rfl : a = .pointer none := h; exact ndigest51 w lo hi
  | some x => obtain ⟨sb, mb, t, rfl, hs, _⟩ := h; exact digest_any hs lo hi
theorem Ds.dig (h : Ds w b G o) (lo hi : Int) : Calls Try.prog 147 #[b, .int .u64 lo, .int .u64 hi] w fun e w' => e = .returned (.int .u64 (Cd.fv f0 (pbs (rg lo hi (oM o))))) ∧ Kp Nu w w' := by
  cases o with
  | none =>
    obtain rfl : b = .pointer none := h
    exact (digest_nil147 w lo hi).mono fun e w' ⟨e1, e2⟩ => ⟨e1, by rw [e2]; exact Kp.refl _ _⟩
  | some x => obtain ⟨rb, v, L, rfl, hs, _⟩ := h; exact digest147 hs lo hi
def nthA (o : Om) (lo hi i : Int) : Int × Bool := if i < 0 then (0, false) else match (rg lo hi (oM o))[i.toNat]? with
  | none => (0, false)
  | some m => (m.1, true)
theorem Ps.nth (h : Ps w a G o) (lo hi i : Int) : Calls Try.prog 53 #[a, .int .u64 lo, .int .u64 hi, .int .i64 i] w fun e w' => e = .returned (.tuple #[.int .u64 (nthA o lo hi i).1, .bool (nthA o lo hi i).2]) ∧ Kp Nu w w' := by
  unfold nthA
  cases o with
  | none =>
    obtain rfl : a = .pointer none := h
    refine (nnth53 w lo hi i).mono ?_
    rintro e w' ⟨rfl, hw⟩
    obtain rfl := hw
    refine ⟨?_, Kp.refl _ _⟩
    split <;> rfl
  | some x =>
    obtain ⟨sb, mb, t, rfl, hs, _⟩ := h
    by_cases h0 : i < 0
    · rw [if_pos h0]
      exact (nth_neg lo hi i h0).mono fun e w' ⟨e1, e2⟩ => ⟨e1, by rw [e2]; exact Kp.refl _ _⟩
    · rw [if_neg h0]
      obtain ⟨n, rfl⟩ : ∃ n : Nat, i = n := ⟨i.toNat, by omega⟩
      rw [Int.toNat_natCast]
      cases hm : (rg lo hi (oM (some x)))[n]? with
      | none => exact nth_no hs lo hi n (List.getElem?_eq_none_iff.1 hm)
      | some m => exact nth_yes hs lo hi n m hm
theorem Ds.nth (h : Ds w b G o) (lo hi i : Int) : Calls Try.prog 145 #[b, .int .u64 lo, .int .u64 hi, .int .i64 i] w fun e w' => e = .returned (.tuple #[.int .u64 (nthA o lo hi i).1, .bool (nthA o lo hi i).2]) ∧ Kp Nu w w' := by
  unfold nthA
  cases o with
  | none =>
    obtain rfl : b = .pointer none := h
    refine (nth_nil145 w lo hi i).mono ?_
    rintro e w' ⟨rfl, hw⟩
    obtain rfl := hw
    refine ⟨?_, Kp.refl _ _⟩
    split <;> rfl
  | some x =>
    obtain ⟨rb, v, L, rfl, hs, _⟩ := h
    by_cases h0 : i < 0
    · rw [if_pos h0]
      exact nth_no145 hs lo hi i (.inl h0)
    · rw [if_neg h0]
      obtain ⟨n, rfl⟩ : ∃ n : Nat, i = n := ⟨i.toNat, by omega⟩
      rw [Int.toNat_natCast]
      cases hm : (rg lo hi (oM (some x)))[n]? with
      | none => exact nth_no145 hs lo hi n (.inr (by have := List.getElem?_eq_none_iff.1 hm; exact Int.ofNat_le.2 this))
      | some m => exact nth_yes145 hs lo hi n m hm
end
end Go.Proofs.Ytchealdgncgjoaa.StU
