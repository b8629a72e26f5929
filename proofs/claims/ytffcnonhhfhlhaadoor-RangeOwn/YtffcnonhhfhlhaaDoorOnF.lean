import Derived.Test.YtffcnonhhfhlhaaDoorOnC
namespace Go.Proofs.YtffcnonhhfhlhaaDoor.Rg
open Go.RowKit Go.Shelf Go.Sort
set_option linter.unusedVariables false
/-- a list out of its elements -/
def mkl (F : Nat → List Value) (n : Nat) : List Value := (List.range n).flatMap F
theorem mkl_succ (F : Nat → List Value) (n : Nat) : mkl F (n + 1) = mkl F n ++ F n := by simp [mkl, List.range_succ]
theorem mkl_len {F : Nat → List Value} {e : Nat} (hF : ∀ k, (F k).length = e) : ∀ n, (mkl F n).length = n * e
  | 0 => by simp [mkl]
  | n + 1 => by rw [mkl_succ, List.length_append, mkl_len hF n, hF, Nat.add_mul, Nat.one_mul]
theorem mkl_at {F : Nat → List Value} {e : Nat} (hF : ∀ k, (F k).length = e) {n k j : Nat} (hk : k < n) (hj : j < e) : (mkl F n)[k * e + j]? = (F k)[j]? := by
  induction n with
  | zero => omega
  | succ n ih =>
    rw [mkl_succ]
    by_cases c : k < n
    · rw [List.getElem?_append_left]
      · exact ih c
      · rw [mkl_len hF]
        have : (k + 1) * e ≤ n * e := Nat.mul_le_mul_right _ c
        rw [Nat.add_mul, Nat.one_mul] at this
        omega
    · have e1 : k = n := by omega
      subst e1
      rw [List.getElem?_append_right (by rw [mkl_len hF]; omega), mkl_len hF]
      congr 1
      omega
theorem own_cell {w : World} {B t e n g cap : Nat} {xs : List Value} (h : w.ownsRow B t e (.slice (some ⟨g, 0, none⟩) n cap) n xs) {j : Nat} {u : Value} (hj : xs[j]? = some u) : w.cell? ⟨g, j, none⟩ = some u := by
  obtain ⟨g', e1, h1⟩ := (Rdr.of_own h).cell hj
  cases e1
  exact h1
theorem own_free {w : World} {B t e n g cap : Nat} {xs : List Value} (h : w.ownsRow B t e (.slice (some ⟨g, 0, none⟩) n cap) n xs) (j : Nat) : w.frozen? ⟨g, j, none⟩ = false := by
  obtain ⟨cur, hc⟩ := own_obj h (g := g) rfl
  exact free3 hc j
/-- the lists that a book holds, and what stands in them -/
structure En (w : World) (B t e : Nat) (vs : List Value) (ns : List Nat) (X : Nat → List Value) : Prop where
  len : ns.length = vs.length
  row : ∀ (i : Nat) v n, vs[i]? = some v → ns[i]? = some n → w.ownsRow B t e v n (X i)
  dis : ∀ (i j : Nat) vi vj g, vs[i]? = some vi → vs[j]? = some vj → vi.ownBlock = some g → vj.ownBlock = some g → i = j
/-- their blocks -/
def Eb (vs : List Value) (g : Nat) : Prop := ∃ v ∈ vs, some g = v.ownBlock
theorem En.obj {w : World} {B t e : Nat} {vs : List Value} {ns : List Nat} {X : Nat → List Value} (h : En w B t e vs ns X) {g : Nat} (hg : Eb vs g) : B ≤ g ∧ ∃ c, w.heap[g]? = some (.cells c t (0, 0)) := by
  obtain ⟨v, hv, e1⟩ := hg
  obtain ⟨i, hi⟩ := List.getElem?_of_mem hv
  have hl := (List.getElem?_eq_some_iff.1 hi).1
  have hr := h.row i v _ hi (List.getElem?_eq_getElem (by rw [h.len]; exact hl))
  exact ⟨(hr.lt g e1.symm).1, own_obj hr e1.symm⟩
theorem En.keep {w w' : World} {B t e : Nat} {vs : List Value} {ns : List Nat} {X : Nat → List Value} (h : En w B t e vs ns X) {T : Nat → Prop} (k : Kp T w w') (hT : ∀ g, Eb vs g → ¬ T g) : En w' B t e vs ns X :=
  ⟨h.len, fun i v n hv hn => own_keep (h.row i v n hv hn) (fun g e => k.block g (own_lt (h.row i v n hv hn) e) (hT g ⟨v, List.mem_of_getElem? hv, e.symm⟩)), h.dis⟩
/-- blocks of another type are none of these -/
theorem En.ne {w : World} {B t e : Nat} {vs : List Value} {ns : List Nat} {X : Nat → List Value} (h : En w B t e vs ns X) {g : Nat} {c : Array Value} {t' : TypeId} (hg : w.heap[g]? = some (.cells c t' (0, 0))) (ht : t' ≠ t) : ¬ Eb vs g := fun e => by
  obtain ⟨_, c', hc⟩ := h.obj e
  rw [hg] at hc; cases hc; exact ht rfl
theorem En.apart {w : World} {B t e t' e' : Nat} {vs vs' : List Value} {ns ns' : List Nat} {X X' : Nat → List Value} (h : En w B t e vs ns X) (h' : En w B t' e' vs' ns' X') (ht : t ≠ t') : ∀ g, Eb vs g → ¬ Eb vs' g := fun g e => by
  obtain ⟨_, c, hc⟩ := h.obj e
  exact h'.ne hc ht
theorem Bk.apart {w : World} {B b t e : Nat} {mv sv iv : Value} {ml sl il vs : List Value} {ns : List Nat} {X : Nat → List Value} (h : Bk w B b mv sv iv ml sl il) (he : En w B t e vs ns X) (h1 : t ≠ 78) (h2 : t ≠ 22) (h3 : t ≠ 55) (h4 : t ≠ 58) : ∀ g, Bc b mv sv iv g → ¬ Eb vs g := fun g hg e => by
  obtain ⟨_, c, hc⟩ := he.obj e
  exact h.other hc h1 h2 h3 h4 hg
/-- one of them has other contents now -/
theorem En.turn {w w' : World} {B t e : Nat} {vs : List Value} {ns : List Nat} {X Y : Nat → List Value} (h : En w B t e vs ns X) {i n : Nat} {v : Value} (hv : vs[i]? = some v) (hn : ns[i]? = some n) (k : Kp (fun g => some g = v.ownBlock) w w') (hr : w'.ownsRow B t e v n (Y i)) (hY : ∀ j, j ≠ i → Y j = X j) : En w' B t e vs ns Y := by
  refine ⟨h.len, fun j u m hu hm => ?_, h.dis⟩
  by_cases c : j = i
  · subst c
    rw [hv] at hu; rw [hn] at hm
    cases hu; cases hm
    exact hr
  · rw [hY j c]
    have hj := h.row j u m hu hm
    exact own_keep hj (fun g e => k.block g (own_lt hj e) (fun e2 => c (h.dis j i u v g hu hv e e2.symm)))
theorem kp_eb {w w1 w2 : World} {vs : List Value} {i : Nat} {v : Value} (k : Kp (Eb vs) w w1) (hv : vs[i]? = some v) (k2 : Kp (fun g => some g = v.ownBlock) w1 w2) : Kp (Eb vs) w w2 :=
  k.trans k2 (fun g _ e => ⟨v, List.mem_of_getElem? hv, e⟩)
theorem set_four (A D : List Value) (v0 v1 v2 v3 : Value) (hD : 4 ≤ D.length) : ((((A ++ D).set A.length v0).set (A.length + 1) v1).set (A.length + 2) v2).set (A.length + 3) v3 = A ++ ([v0, v1, v2, v3] ++ D.drop 4) := by
  match D, hD with
  | d0 :: d1 :: d2 :: d3 :: D, _ => simp [List.set_append_right]
theorem set_three (A D : List Value) (v0 v1 v2 : Value) (hD : 3 ≤ D.length) : (((A ++ D).set A.length v0).set (A.length + 1) v1).set (A.length + 2) v2 = A ++ ([v0, v1, v2] ++ D.drop 3) := by
  match D, hD with
  | d0 :: d1 :: d2 :: D, _ => simp [List.set_append_right]
/-- how far a list has been written over -/
def part (F : Nat → List Value) (e : Nat) (X : List Value) (k : Nat) : List Value := mkl F k ++ X.drop (k * e)
theorem part_zero (F : Nat → List Value) (e : Nat) (X : List Value) : part F e X 0 = X := by simp [part, mkl]
theorem part_full {F : Nat → List Value} {e n : Nat} {X : List Value} (hX : X.length = n * e) : part F e X n = mkl F n := by
  unfold part
  rw [List.drop_of_length_le (by omega), List.append_nil]
theorem part_len {F : Nat → List Value} {e n k : Nat} {X : List Value} (hF : ∀ k, (F k).length = e) (hX : X.length = n * e) (hk : k ≤ n) : (part F e X k).length = n * e := by
  unfold part
  rw [List.length_append, mkl_len hF, List.length_drop, hX]
  have := Nat.mul_le_mul_right e hk
  omega
theorem part_step4 {F : Nat → List Value} {n k : Nat} {X : List Value} {v0 v1 v2 v3 : Value} (hF : ∀ k, (F k).length = 4) (hX : X.length = n * 4) (hk : k < n) (hv : F k = [v0, v1, v2, v3]) :
    ((((part F 4 X k).set (k * 4) v0).set (k * 4 + 1) v1).set (k * 4 + 2) v2).set (k * 4 + 3) v3 = part F 4 X (k + 1) := by
  have hl := mkl_len hF k
  have h := set_four (mkl F k) (X.drop (k * 4)) v0 v1 v2 v3 (by rw [List.length_drop]; omega)
  rw [hl] at h
  unfold part
  rw [h, mkl_succ, hv, List.drop_drop, List.append_assoc, Nat.add_mul]
theorem part_step3 {F : Nat → List Value} {n k : Nat} {X : List Value} {v0 v1 v2 : Value} (hF : ∀ k, (F k).length = 3) (hX : X.length = n * 3) (hk : k < n) (hv : F k = [v0, v1, v2]) :
    (((part F 3 X k).set (k * 3) v0).set (k * 3 + 1) v1).set (k * 3 + 2) v2 = part F 3 X (k + 1) := by
  have hl := mkl_len hF k
  have h := set_three (mkl F k) (X.drop (k * 3)) v0 v1 v2 (by rw [List.length_drop]; omega)
  rw [hl] at h
  unfold part
  rw [h, mkl_succ, hv, List.drop_drop, List.append_assoc, Nat.add_mul]
/-- the marks -/
def fM (i k : Nat) : List Value := [.int .u64 (i : Int), .int .u64 (k : Int), .int .u8 77]
def fS (i k : Nat) : List Value := [.int .u8 78, .int .i64 (i : Int), .int .u64 (k : Int)]
def fC (i k : Nat) : List Value := [.int .u64 (i : Int), .int .u64 (k : Int), .int .u8 0, .int .u8 0]
/-- lists of which the first i have been marked -/
def cutX (f : Nat → Nat → List Value) (ns : List Nat) (X : Nat → List Value) (i j : Nat) : List Value := if j < i then mkl (f j) (ns.getD j 0) else X j
theorem own_blk {w : World} {B t e n : Nat} {v : Value} {xs : List Value} (h : w.ownsRow B t e v n xs) (hn : 0 < n) : ∃ g c, v = .slice (some ⟨g, 0, none⟩) n c := by
  rcases h.2 with ⟨_, h0⟩ | ⟨g, cap, cur, e1, _⟩
  · omega
  · exact ⟨g, cap, e1⟩
theorem cutX_zero (f : Nat → Nat → List Value) (ns : List Nat) (X : Nat → List Value) : cutX f ns X 0 = X := by
  funext j; simp [cutX]
theorem cutX_at (f : Nat → Nat → List Value) (ns : List Nat) (X : Nat → List Value) (i : Nat) : cutX f ns X i i = X i := by simp [cutX]
theorem cutX_succ {f : Nat → Nat → List Value} {ns : List Nat} {X : Nat → List Value} {i n : Nat} (hn : ns[i]? = some n) : cutX f ns X (i + 1) i = mkl (f i) n := by
  unfold cutX
  rw [if_pos (by omega), List.getD_eq_getElem?_getD, hn]
  rfl
theorem cutX_oth {f : Nat → Nat → List Value} {ns : List Nat} {X : Nat → List Value} {i j : Nat} (h : j ≠ i) : cutX f ns X (i + 1) j = cutX f ns X i j := by
  unfold cutX
  by_cases c : j < i
  · rw [if_pos c, if_pos (by omega)]
  · rw [if_neg c, if_neg (by omega)]
/-- all marked -/
theorem En.full {w : World} {B t e : Nat} {vs : List Value} {ns : List Nat} {f : Nat → Nat → List Value} {X : Nat → List Value} {i : Nat} (h : En w B t e vs ns (cutX f ns X i)) (hi : vs.length ≤ i) : En w B t e vs ns (fun j => mkl (f j) (ns.getD j 0)) :=
  ⟨h.len, fun j v n hv hn => by
    have hl := (List.getElem?_eq_some_iff.1 hv).1
    have := h.row j v n hv hn
    unfold cutX at this
    rwa [if_pos (by omega)] at this, h.dis⟩
end Go.Proofs.YtffcnonhhfhlhaaDoor.Rg
namespace Go.Proofs.YtffcnonhhfhlhaaDoor.Rg
open Go.RowKit Go.Shelf Go.Sort
open Go.Proofs.YtffcnonhhfhlhaaDoor.It
set_option linter.unusedVariables false
theorem own_put {w : World} {B e size n g cap : Nat} {xs : List Value} (h : w.ownsRow B e size (.slice (some ⟨g, 0, none⟩) n cap) n xs) (o : Nat) (u : Value) (ho : o < xs.length) : (w.setCell ⟨g, o, none⟩ u).ownsRow B e size (.slice (some ⟨g, 0, none⟩) n cap) n (xs.set o u) := by
  rcases h.2 with ⟨e0, _⟩ | ⟨g', cap', cur, e0, hb, hg, h1, h2, h3, h4⟩
  · cases e0
  · cases e0
    refine ⟨by rw [List.length_set]; exact h.1, .inr ⟨g, cap, cur.setIfInBounds o u, rfl, hb, set3 hg o u, h1, h2, by rw [Array.size_setIfInBounds]; exact h3, ?_⟩⟩
    rw [Array.toList_setIfInBounds, ← h4, List.take_set]
/-- a book of which the first lists have been marked -/
structure St (w0 w : World) (B b : Nat) (mv sv iv : Value) (ml sl il : List Value) (mn sn cn : List Nat) (X Y Z : Nat → List Value) (i j k : Nat) : Prop where
  bk : Bk w B b mv sv iv ml sl il
  m : En w B 26 3 ml mn (cutX fM mn X i)
  s : En w B 105 3 sl sn (cutX fS sn Y j)
  c : En w B 112 4 il cn (cutX fC cn Z k)
  kp : Kp (fun g => Eb ml g ∨ Eb sl g ∨ Eb il g) w0 w
section
variable {w0 w w' : World} {B b : Nat} {mv sv iv v : Value} {ml sl il : List Value} {mn sn cn : List Nat} {X Y Z : Nat → List Value} {i j k n : Nat}
theorem St.nm (h : St w0 w B b mv sv iv ml sl il mn sn cn X Y Z i j k) {t e : Nat} {xs : List Value} (hr : w.ownsRow B t e v n xs) (h1 : t ≠ 78) (h2 : t ≠ 22) (h3 : t ≠ 55) (h4 : t ≠ 58) : ∀ g, Bc b mv sv iv g → ¬ some g = v.ownBlock := fun g hg e => by
  obtain ⟨c, hc⟩ := own_obj hr e.symm
  exact h.bk.other hc h1 h2 h3 h4 hg
theorem St.stM (h : St w0 w B b mv sv iv ml sl il mn sn cn X Y Z i j k) (hv : ml[i]? = some v) (hn : mn[i]? = some n) (kq : Kp (fun g => some g = v.ownBlock) w w') (hr : w'.ownsRow B 26 3 v n (mkl (fM i) n)) : St w0 w' B b mv sv iv ml sl il mn sn cn X Y Z (i + 1) j k :=
  ⟨h.bk.keep kq (h.nm (h.m.row i v n hv hn) (by decide) (by decide) (by decide) (by decide)), h.m.turn hv hn kq (by rw [cutX_succ hn]; exact hr) (fun _ hj => cutX_oth hj), h.s.keep kq (fun g hg e => by obtain ⟨c, hc⟩ := own_obj (h.m.row i v n hv hn) e.symm; exact h.s.ne hc (by decide) hg), h.c.keep kq (fun g hg e => by obtain ⟨c, hc⟩ := own_obj (h.m.row i v n hv hn) e.symm; exact h.c.ne hc (by decide) hg), h.kp.trans kq (fun g _ e => .inl ⟨v, List.mem_of_getElem? hv, e⟩)⟩
theorem St.stS (h : St w0 w B b mv sv iv ml sl il mn sn cn X Y Z i j k) (hv : sl[j]? = some v) (hn : sn[j]? = some n) (kq : Kp (fun g => some g = v.ownBlock) w w') (hr : w'.ownsRow B 105 3 v n (mkl (fS j) n)) : St w0 w' B b mv sv iv ml sl il mn sn cn X Y Z i (j + 1) k :=
  ⟨h.bk.keep kq (h.nm (h.s.row j v n hv hn) (by decide) (by decide) (by decide) (by decide)), h.m.keep kq (fun g hg e => by obtain ⟨c, hc⟩ := own_obj (h.s.row j v n hv hn) e.symm; exact h.m.ne hc (by decide) hg), h.s.turn hv hn kq (by rw [cutX_succ hn]; exact hr) (fun _ hj => cutX_oth hj), h.c.keep kq (fun g hg e => by obtain ⟨c, hc⟩ := own_obj (h.s.row j v n hv hn) e.symm; exact h.c.ne hc (by decide) hg), h.kp.trans kq (fun g _ e => .inr (.inl ⟨v, List.mem_of_getElem? hv, e⟩))⟩
theorem St.stC (h : St w0 w B b mv sv iv ml sl il mn sn cn X Y Z i j k) (hv : il[k]? = some v) (hn : cn[k]? = some n) (kq : Kp (fun g => some g = v.ownBlock) w w') (hr : w'.ownsRow B 112 4 v n (mkl (fC k) n)) : St w0 w' B b mv sv iv ml sl il mn sn cn X Y Z i j (k + 1) :=
  ⟨h.bk.keep kq (h.nm (h.c.row k v n hv hn) (by decide) (by decide) (by decide) (by decide)), h.m.keep kq (fun g hg e => by obtain ⟨c, hc⟩ := own_obj (h.c.row k v n hv hn) e.symm; exact h.m.ne hc (by decide) hg), h.s.keep kq (fun g hg e => by obtain ⟨c, hc⟩ := own_obj (h.c.row k v n hv hn) e.symm; exact h.s.ne hc (by decide) hg), h.c.turn hv hn kq (by rw [cutX_succ hn]; exact hr) (fun _ hj => cutX_oth hj), h.kp.trans kq (fun g _ e => .inr (.inr ⟨v, List.mem_of_getElem? hv, e⟩))⟩
end
set_option maxRecDepth 100000 in
set_option maxHeartbeats 4000000 in
theorem marks68 (w : World) (B b : Nat) (mv sv iv : Value) (ml sl il : List Value) (mn sn cn : List Nat) (X Y Z : Nat → List Value) (N : Nat) (hB : Bk w B b mv sv iv ml sl il) (hM : En w B 26 3 ml mn X) (hS : En w B 105 3 sl sn Y) (hC : En w B 112 4 il cn Z) (em : ml.length = N) (es : sl.length = N) (ei : il.length = N) (n1 : 0 < N) (n2 : N ≤ 100) (hmn : ∀ n ∈ mn, n ≤ 20000) (hsn : ∀ n ∈ sn, n ≤ 20000) (hcn : ∀ n ∈ cn, n ≤ 20000) :
    Calls Tryd.prog 68 #[.pointer (some ⟨b, 0, none⟩)] w fun e w' => e = .returned (.tuple #[]) ∧ St w w' B b mv sv iv ml sl il mn sn cn X Y Z N N N := by
  obtain ⟨mg, mc, emv⟩ := own_blk hB.m (by omega)
  obtain ⟨sg, sc, esv⟩ := own_blk hB.s (by omega)
  obtain ⟨ig, ic, eiv⟩ := own_blk hB.i (by omega)
  rw [em] at emv
  rw [es] at esv
  rw [ei] at eiv
  subst emv
  subst esv
  subst eiv
  have HA : Hid (St w w B b (.slice (some ⟨mg, 0, none⟩) N mc) (.slice (some ⟨sg, 0, none⟩) N sc) (.slice (some ⟨ig, 0, none⟩) N ic) ml sl il mn sn cn X Y Z 0 0 0) := hide ⟨hB, by rw [cutX_zero]; exact hM, by rw [cutX_zero]; exact hS, by rw [cutX_zero]; exact hC, Kp.refl _ _⟩
  have HN := hide (And.intro em (And.intro es (And.intro ei (And.intro hmn (And.intro hsn hcn)))))
  have hNI : (N : Int) ≤ 100 := by omega
  clear hB hM hS hC hmn hsn hcn em es ei
  go_enter Tryd.func68, Tryd.ntmps68
  go_wp2
  go_loopw [2] (fun iv wr => ∃ i : Nat, iv = .int .i64 (i : Int) ∧ i ≤ N ∧ Hid (St w wr B b (.slice (some ⟨mg, 0, none⟩) N mc) (.slice (some ⟨sg, 0, none⟩) N sc) (.slice (some ⟨ig, 0, none⟩) N ic) ml sl il mn sn cn X Y Z i i i)) (fun iv _ => N - (intOf iv).toNat)
  case atStart => exact ⟨0, rfl, Nat.zero_le _, HA⟩
  case round =>
    obtain ⟨i, rfl, hi, hE0⟩ := hrel
    clear HA
    obtain ⟨c0, c1, c2⟩ := cell3 hE0.out.bk.blk
    have hi0 : (0 : Int) ≤ (i : Int) := by omega
    by_cases hlt : i < N
    · have hltI : (i : Int) < (N : Int) := by omega
      have eti : (i : Int).toNat = i := by omega
      have ewi : IntKind.u64.wrap (i : Int) = (i : Int) := by rw [IntKind.wrap_u64]; omega
      obtain ⟨v, hv⟩ : ∃ v, ml[i]? = some v := ⟨_, List.getElem?_eq_getElem (by have := HN.out.1; omega)⟩
      obtain ⟨n, hn⟩ : ∃ n, mn[i]? = some n := ⟨_, List.getElem?_eq_getElem (by have := HN.out.1; have := hE0.out.m.len; omega)⟩
      have hrow := hE0.out.m.row i v n hv hn
      rw [cutX_at] at hrow
      have hn2 := HN.out.2.2.2.1 n (List.mem_of_getElem? hn)
      have hnI : (n : Int) ≤ 20000 := by omega
      have hcell : wr.cell? ⟨mg, i, none⟩ = some v := own_cell (B := B) (by have h := hE0.out.bk.m; rw [HN.out.1] at h; exact h) hv
      obtain ⟨va, vc, ev⟩ := own_slice hrow
      have HV := hide (And.intro hv (And.intro hn (And.intro hrow hrow.1)))
      subst ev
      clear hv hn hrow
      go_wp2
      generalize eW : wr = wA at *
      go_loopw [3] (fun kv wq => ∃ k : Nat, kv = .int .i64 (k : Int) ∧ k ≤ n ∧ Hid (wq.ownsRow B 26 3 (.slice va n vc) n (part (fM i) 3 (X i) k) ∧ Kp (fun g => some g = (Value.slice va n vc).ownBlock) wA wq)) (fun kv _ => n - (intOf kv).toNat)
      case atStart => exact ⟨0, rfl, Nat.zero_le _, hide ⟨by rw [part_zero]; exact HV.out.2.2.1, Kp.refl _ _⟩⟩
      case round =>
        obtain ⟨k, rfl, hk, hQ⟩ := hrel
        have hk0 : (0 : Int) ≤ (k : Int) := by omega
        have hB2 := hE0.out.bk.keep hQ.out.2 (hE0.out.nm HV.out.2.2.1 (by decide) (by decide) (by decide) (by decide))
        obtain ⟨d0, d1, d2⟩ := cell3 hB2.blk
        have hcell2 : wr.cell? ⟨mg, i, none⟩ = some (.slice va n vc) := own_cell (B := B) (by have h := hB2.m; rw [HN.out.1] at h; exact h) HV.out.1
        clear hB2 hcell c0 c1 c2
        by_cases hlk : k < n
        · have hlkI : (k : Int) < (n : Int) := by omega
          have etk : (k : Int).toNat = k := by omega
          obtain ⟨vg, vc', ev⟩ := own_blk hQ.out.1 (by omega)
          simp only [Value.slice.injEq, true_and] at ev
          obtain ⟨eva, evc⟩ := ev
          subst eva
          have hq := hQ.out.1
          have hpl := part_len (F := fM i) (e := 3) (n := n) (k := k) (X := X i) (fun _ => rfl) HV.out.2.2.2 (by omega)
          obtain ⟨u0, hu0⟩ : ∃ u, (part (fM i) 3 (X i) k)[k * 3]? = some u := ⟨_, List.getElem?_eq_getElem (by rw [hpl]; omega)⟩
          have x0 := own_cell hq hu0
          have y0 := own_free hq (k * 3)
          obtain ⟨u1, hu1⟩ : ∃ u, (part (fM i) 3 (X i) k)[k * 3 + 1]? = some u := ⟨_, List.getElem?_eq_getElem (by rw [hpl]; omega)⟩
          have x1 := own_cell hq hu1
          have y1 := own_free hq (k * 3 + 1)
          obtain ⟨u2, hu2⟩ : ∃ u, (part (fM i) 3 (X i) k)[k * 3 + 2]? = some u := ⟨_, List.getElem?_eq_getElem (by rw [hpl]; omega)⟩
          have x2 := own_cell hq hu2
          have y2 := own_free hq (k * 3 + 2)
          have ewk : IntKind.u64.wrap (k : Int) = (k : Int) := by rw [IntKind.wrap_u64]; omega
          have HP := hide (And.intro (by have h := own_put (own_put (own_put (hq) (k * 3) (.int .u64 (i : Int)) (by (try simp only [List.length_set]); rw [hpl]; omega)) (k * 3 + 1) (.int .u64 (k : Int)) (by (try simp only [List.length_set]); rw [hpl]; omega)) (k * 3 + 2) (.int .u8 77) (by (try simp only [List.length_set]); rw [hpl]; omega); rw [part_step3 (F := fM i) (n := n) (fun _ => rfl) HV.out.2.2.2 hlk rfl] at h; exact h) ((((hQ.out.2).andSet ⟨vg, k * 3, none⟩ (.int .u64 (i : Int)) (.inr rfl)).andSet ⟨vg, k * 3 + 1, none⟩ (.int .u64 (k : Int)) (.inr rfl)).andSet ⟨vg, k * 3 + 2, none⟩ (.int .u8 77) (.inr rfl)))
          clear hq hpl evc hu0 hu1 hu2
          go_wp2
          exact ⟨⟨k + 1, by go_num, by omega, hide ⟨HP.out.1, HP.out.2⟩⟩, by simp [intOf]; omega⟩
        · have hlkI : ¬ (k : Int) < (n : Int) := by omega
          obtain rfl : n = k := by omega
          have hE1 : Hid (St w wr B b (.slice (some ⟨mg, 0, none⟩) N mc) (.slice (some ⟨sg, 0, none⟩) N sc) (.slice (some ⟨ig, 0, none⟩) N ic) ml sl il mn sn cn X Y Z (i + 1) i i) := by
            obtain ⟨h1, h2⟩ := hQ.out
            obtain ⟨hv, hn, hrow, hxl⟩ := HV.out
            rw [part_full hxl] at h1
            exact hide (hE0.out.stM hv hn h2 h1)
          go_wp2
          clear hQ HV hcell2 hlkI hk hk0 hnI hn2
          clear d0 d1 d2
          obtain ⟨c0, c1, c2⟩ := cell3 hE1.out.bk.blk
          obtain ⟨v, hv⟩ : ∃ v, sl[i]? = some v := ⟨_, List.getElem?_eq_getElem (by have := HN.out.2.1; omega)⟩
          obtain ⟨n, hn⟩ : ∃ n, sn[i]? = some n := ⟨_, List.getElem?_eq_getElem (by have := HN.out.2.1; have := hE1.out.s.len; omega)⟩
          have hrow := hE1.out.s.row i v n hv hn
          rw [cutX_at] at hrow
          have hn2 := HN.out.2.2.2.2.1 n (List.mem_of_getElem? hn)
          have hnI : (n : Int) ≤ 20000 := by omega
          have hcell : wr.cell? ⟨sg, i, none⟩ = some v := own_cell (B := B) (by have h := hE1.out.bk.s; rw [HN.out.2.1] at h; exact h) hv
          obtain ⟨va, vc, ev⟩ := own_slice hrow
          have HV := hide (And.intro hv (And.intro hn (And.intro hrow hrow.1)))
          subst ev
          clear hv hn hrow
          generalize eW : wr = wA at *
          go_loopw [4] (fun kv wq => ∃ k : Nat, kv = .int .i64 (k : Int) ∧ k ≤ n ∧ Hid (wq.ownsRow B 105 3 (.slice va n vc) n (part (fS i) 3 (Y i) k) ∧ Kp (fun g => some g = (Value.slice va n vc).ownBlock) wA wq)) (fun kv _ => n - (intOf kv).toNat)
          case atStart => exact ⟨0, rfl, Nat.zero_le _, hide ⟨by rw [part_zero]; exact HV.out.2.2.1, Kp.refl _ _⟩⟩
          case round =>
            obtain ⟨k, rfl, hk, hQ⟩ := hrel
            have hk0 : (0 : Int) ≤ (k : Int) := by omega
            have hB2 := hE1.out.bk.keep hQ.out.2 (hE1.out.nm HV.out.2.2.1 (by decide) (by decide) (by decide) (by decide))
            obtain ⟨d0, d1, d2⟩ := cell3 hB2.blk
            have hcell2 : wr.cell? ⟨sg, i, none⟩ = some (.slice va n vc) := own_cell (B := B) (by have h := hB2.s; rw [HN.out.2.1] at h; exact h) HV.out.1
            clear hB2 hcell c0 c1 c2
            by_cases hlk : k < n
            · have hlkI : (k : Int) < (n : Int) := by omega
              have etk : (k : Int).toNat = k := by omega
              obtain ⟨vg, vc', ev⟩ := own_blk hQ.out.1 (by omega)
              simp only [Value.slice.injEq, true_and] at ev
              obtain ⟨eva, evc⟩ := ev
              subst eva
              have hq := hQ.out.1
              have hpl := part_len (F := fS i) (e := 3) (n := n) (k := k) (X := Y i) (fun _ => rfl) HV.out.2.2.2 (by omega)
              obtain ⟨u0, hu0⟩ : ∃ u, (part (fS i) 3 (Y i) k)[k * 3]? = some u := ⟨_, List.getElem?_eq_getElem (by rw [hpl]; omega)⟩
              have x0 := own_cell hq hu0
              have y0 := own_free hq (k * 3)
              obtain ⟨u1, hu1⟩ : ∃ u, (part (fS i) 3 (Y i) k)[k * 3 + 1]? = some u := ⟨_, List.getElem?_eq_getElem (by rw [hpl]; omega)⟩
              have x1 := own_cell hq hu1
              have y1 := own_free hq (k * 3 + 1)
              obtain ⟨u2, hu2⟩ : ∃ u, (part (fS i) 3 (Y i) k)[k * 3 + 2]? = some u := ⟨_, List.getElem?_eq_getElem (by rw [hpl]; omega)⟩
              have x2 := own_cell hq hu2
              have y2 := own_free hq (k * 3 + 2)
              have ewk : IntKind.u64.wrap (k : Int) = (k : Int) := by rw [IntKind.wrap_u64]; omega
              have HP := hide (And.intro (by have h := own_put (own_put (own_put (hq) (k * 3) (.int .u8 78) (by (try simp only [List.length_set]); rw [hpl]; omega)) (k * 3 + 1) (.int .i64 (i : Int)) (by (try simp only [List.length_set]); rw [hpl]; omega)) (k * 3 + 2) (.int .u64 (k : Int)) (by (try simp only [List.length_set]); rw [hpl]; omega); rw [part_step3 (F := fS i) (n := n) (fun _ => rfl) HV.out.2.2.2 hlk rfl] at h; exact h) ((((hQ.out.2).andSet ⟨vg, k * 3, none⟩ (.int .u8 78) (.inr rfl)).andSet ⟨vg, k * 3 + 1, none⟩ (.int .i64 (i : Int)) (.inr rfl)).andSet ⟨vg, k * 3 + 2, none⟩ (.int .u64 (k : Int)) (.inr rfl)))
              clear hq hpl evc hu0 hu1 hu2
              go_wp2
              exact ⟨⟨k + 1, by go_num, by omega, hide ⟨HP.out.1, HP.out.2⟩⟩, by simp [intOf]; omega⟩
            · have hlkI : ¬ (k : Int) < (n : Int) := by omega
              obtain rfl : n = k := by omega
              have hE2 : Hid (St w wr B b (.slice (some ⟨mg, 0, none⟩) N mc) (.slice (some ⟨sg, 0, none⟩) N sc) (.slice (some ⟨ig, 0, none⟩) N ic) ml sl il mn sn cn X Y Z (i + 1) (i + 1) i) := by
                obtain ⟨h1, h2⟩ := hQ.out
                obtain ⟨hv, hn, hrow, hxl⟩ := HV.out
                rw [part_full hxl] at h1
                exact hide (hE1.out.stS hv hn h2 h1)
              go_wp2
              clear hQ HV hcell2 hlkI hk hk0 hnI hn2
              clear d0 d1 d2
              obtain ⟨c0, c1, c2⟩ := cell3 hE2.out.bk.blk
              obtain ⟨v, hv⟩ : ∃ v, il[i]? = some v := ⟨_, List.getElem?_eq_getElem (by have := HN.out.2.2.1; omega)⟩
              obtain ⟨n, hn⟩ : ∃ n, cn[i]? = some n := ⟨_, List.getElem?_eq_getElem (by have := HN.out.2.2.1; have := hE2.out.c.len; omega)⟩
              have hrow := hE2.out.c.row i v n hv hn
              rw [cutX_at] at hrow
              have hn2 := HN.out.2.2.2.2.2 n (List.mem_of_getElem? hn)
              have hnI : (n : Int) ≤ 20000 := by omega
              have hcell : wr.cell? ⟨ig, i, none⟩ = some v := own_cell (B := B) (by have h := hE2.out.bk.i; rw [HN.out.2.2.1] at h; exact h) hv
              obtain ⟨va, vc, ev⟩ := own_slice hrow
              have HV := hide (And.intro hv (And.intro hn (And.intro hrow hrow.1)))
              subst ev
              clear hv hn hrow
              generalize eW : wr = wA at *
              go_loopw [5] (fun kv wq => ∃ k : Nat, kv = .int .i64 (k : Int) ∧ k ≤ n ∧ Hid (wq.ownsRow B 112 4 (.slice va n vc) n (part (fC i) 4 (Z i) k) ∧ Kp (fun g => some g = (Value.slice va n vc).ownBlock) wA wq)) (fun kv _ => n - (intOf kv).toNat)
              case atStart => exact ⟨0, rfl, Nat.zero_le _, hide ⟨by rw [part_zero]; exact HV.out.2.2.1, Kp.refl _ _⟩⟩
              case round =>
                obtain ⟨k, rfl, hk, hQ⟩ := hrel
                have hk0 : (0 : Int) ≤ (k : Int) := by omega
                have hB2 := hE2.out.bk.keep hQ.out.2 (hE2.out.nm HV.out.2.2.1 (by decide) (by decide) (by decide) (by decide))
                obtain ⟨d0, d1, d2⟩ := cell3 hB2.blk
                have hcell2 : wr.cell? ⟨ig, i, none⟩ = some (.slice va n vc) := own_cell (B := B) (by have h := hB2.i; rw [HN.out.2.2.1] at h; exact h) HV.out.1
                clear hB2 hcell c0 c1 c2
                by_cases hlk : k < n
                · have hlkI : (k : Int) < (n : Int) := by omega
                  have etk : (k : Int).toNat = k := by omega
                  obtain ⟨vg, vc', ev⟩ := own_blk hQ.out.1 (by omega)
                  simp only [Value.slice.injEq, true_and] at ev
                  obtain ⟨eva, evc⟩ := ev
                  subst eva
                  have hq := hQ.out.1
                  have hpl := part_len (F := fC i) (e := 4) (n := n) (k := k) (X := Z i) (fun _ => rfl) HV.out.2.2.2 (by omega)
                  obtain ⟨u0, hu0⟩ : ∃ u, (part (fC i) 4 (Z i) k)[k * 4]? = some u := ⟨_, List.getElem?_eq_getElem (by rw [hpl]; omega)⟩
                  have x0 := own_cell hq hu0
                  have y0 := own_free hq (k * 4)
                  obtain ⟨u1, hu1⟩ : ∃ u, (part (fC i) 4 (Z i) k)[k * 4 + 1]? = some u := ⟨_, List.getElem?_eq_getElem (by rw [hpl]; omega)⟩
                  have x1 := own_cell hq hu1
                  have y1 := own_free hq (k * 4 + 1)
                  obtain ⟨u2, hu2⟩ : ∃ u, (part (fC i) 4 (Z i) k)[k * 4 + 2]? = some u := ⟨_, List.getElem?_eq_getElem (by rw [hpl]; omega)⟩
                  have x2 := own_cell hq hu2
                  have y2 := own_free hq (k * 4 + 2)
                  obtain ⟨u3, hu3⟩ : ∃ u, (part (fC i) 4 (Z i) k)[k * 4 + 3]? = some u := ⟨_, List.getElem?_eq_getElem (by rw [hpl]; omega)⟩
                  have x3 := own_cell hq hu3
                  have y3 := own_free hq (k * 4 + 3)
                  have ewk : IntKind.u64.wrap (k : Int) = (k : Int) := by rw [IntKind.wrap_u64]; omega
                  have HP := hide (And.intro (by have h := own_put (own_put (own_put (own_put (hq) (k * 4) (.int .u64 (i : Int)) (by (try simp only [List.length_set]); rw [hpl]; omega)) (k * 4 + 1) (.int .u64 (k : Int)) (by (try simp only [List.length_set]); rw [hpl]; omega)) (k * 4 + 2) (.int .u8 0) (by (try simp only [List.length_set]); rw [hpl]; omega)) (k * 4 + 3) (.int .u8 0) (by (try simp only [List.length_set]); rw [hpl]; omega); rw [part_step4 (F := fC i) (n := n) (fun _ => rfl) HV.out.2.2.2 hlk rfl] at h; exact h) (((((hQ.out.2).andSet ⟨vg, k * 4, none⟩ (.int .u64 (i : Int)) (.inr rfl)).andSet ⟨vg, k * 4 + 1, none⟩ (.int .u64 (k : Int)) (.inr rfl)).andSet ⟨vg, k * 4 + 2, none⟩ (.int .u8 0) (.inr rfl)).andSet ⟨vg, k * 4 + 3, none⟩ (.int .u8 0) (.inr rfl)))
                  clear hq hpl evc hu0 hu1 hu2 hu3
                  go_wp2
                  exact ⟨⟨k + 1, by go_num, by omega, hide ⟨HP.out.1, HP.out.2⟩⟩, by simp [intOf]; omega⟩
                · have hlkI : ¬ (k : Int) < (n : Int) := by omega
                  obtain rfl : n = k := by omega
                  have hE3 : Hid (St w wr B b (.slice (some ⟨mg, 0, none⟩) N mc) (.slice (some ⟨sg, 0, none⟩) N sc) (.slice (some ⟨ig, 0, none⟩) N ic) ml sl il mn sn cn X Y Z (i + 1) (i + 1) (i + 1)) := by
                    obtain ⟨h1, h2⟩ := hQ.out
                    obtain ⟨hv, hn, hrow, hxl⟩ := HV.out
                    rw [part_full hxl] at h1
                    exact hide (hE2.out.stC hv hn h2 h1)
                  go_wp2
                  exact ⟨⟨i + 1, by go_num, by omega, hE3⟩, by simp [intOf]; omega⟩
    · have hltI : ¬ (i : Int) < (N : Int) := by omega
      obtain rfl : N = i := by omega
      go_wp2
      go_end0
      exact ⟨rfl, hE0.out⟩
end Go.Proofs.YtffcnonhhfhlhaaDoor.Rg
namespace Go.Proofs.YtffcnonhhfhlhaaDoor.Rg
open Go.RowKit Go.Shelf Go.Sort
set_option linter.unusedVariables false
/-- what is appended -/
def gM (i k : Nat) : List Value := [.int .u64 (i : Int), .int .u64 (k : Int), .int .u8 87]
def gS (i k : Nat) : List Value := [.int .u8 88, .int .i64 (i : Int), .int .u64 (k : Int)]
def gC (i k : Nat) : List Value := [.int .u64 ((i : Int) + 1000), .int .u64 (k : Int), .int .u8 0, .int .u8 0]
/-- a list that grows out of another one: where it lies, and that the other one reads as before -/
structure Ol (w0 w : World) (B t e : Nat) (v l : Value) (n m : Nat) (xs ys : List Value) : Prop where
  own : w.ownsRow B t e l m (xs ++ ys)
  old : Rdr w t e v n xs
  nm : n ≤ m
  blk : ∀ q, l.ownBlock = some q → v.ownBlock = some q ∨ w0.heap.size ≤ q
theorem Ol.start {w : World} {B t e n : Nat} {v : Value} {xs : List Value} (h : w.ownsRow B t e v n xs) : Ol w w B t e v v n n xs [] :=
  ⟨by rw [List.append_nil]; exact h, Rdr.of_own h, Nat.le_refl _, fun q hq => .inl hq⟩
/-- an append more -/
theorem Ol.app {w0 w w1 w2 : World} {B t e n m : Nat} {v l l' : Value} {xs ys news : List Value} (h : Ol w0 w B t e v l n m xs ys) (k : Kp Nu w w1) (hs : w0.heap.size ≤ w.heap.size) (hr : w2.ownsRow B t e l' (m + 1) ((xs ++ ys) ++ news)) (hg : w1.grownBy w2 l.ownBlock) (hb : l'.ownBlock = l.ownBlock ∨ l'.ownBlock = some w1.heap.size) (hw : ∀ q, l.ownBlock = some q → Rw w1 w2 q t (m * e) news) :
    Ol w0 w2 B t e v l' n (m + 1) xs (ys ++ news) ∧ (∀ T : Nat → Prop, (∀ q, some q = v.ownBlock → T q) → Kp T w0 w → Kp T w0 w2) := by
  have h1 : Rdr w1 t e v n xs := h.old.keep (fun q e => by
    obtain ⟨c, hc⟩ := h.old.obj e
    exact k.block q (blk_lt hc) (fun x => x))
  refine ⟨⟨by rw [← List.append_assoc]; exact hr, h1.app (B := B) (xs := xs ++ ys) h.nm hg hw, by have := h.nm; omega, fun q hq => ?_⟩, fun T hT kT => ?_⟩
  · rcases hb with e1 | e1
    · rw [e1] at hq; exact h.blk q hq
    · rw [e1] at hq
      cases hq
      have := k.size
      exact .inr (by omega)
  · refine (kT.andNu k).trans (Kp.of_grown hg) (fun q hq e1 => ?_)
    rcases h.blk q e1.symm with e2 | e2
    · exact hT q e2.symm
    · omega
/-- kept where neither block is touched -/
theorem Ol.keep {w0 w w' : World} {B t e n m : Nat} {v l : Value} {xs ys : List Value} (h : Ol w0 w B t e v l n m xs ys) {T : Nat → Prop} (k : Kp T w w') (hT : ∀ (q : Nat) (c : Array Value), w.heap[q]? = some (.cells c t (0, 0)) → ¬ T q) : Ol w0 w' B t e v l n m xs ys :=
  ⟨own_keep h.own (fun q e => by
    obtain ⟨c, hc⟩ := own_obj h.own e
    exact k.block q (blk_lt hc) (hT q c hc)), h.old.keep (fun q e => by
    obtain ⟨c, hc⟩ := h.old.obj e
    exact k.block q (blk_lt hc) (hT q c hc)), h.nm, h.blk⟩
/-- how far all lists have grown -/
structure Ow (wr : World) (B B1 t e : Nat) (vs : List Value) (ns : List Nat) (f g : Nat → Nat → List Value) (c : Nat) (ls : List Value) (i : Nat) : Prop where
  len : ls.length = i
  lev : ns.length = vs.length
  own : ∀ (j : Nat) v n, i ≤ j → vs[j]? = some v → ns[j]? = some n → wr.ownsRow B t e v n (mkl (f j) n)
  old : ∀ (j : Nat) v n, j < i → vs[j]? = some v → ns[j]? = some n → Rdr wr t e v n (mkl (f j) n)
  new : ∀ (j : Nat) l n, ls[j]? = some l → ns[j]? = some n → Rdr wr t e l (n + c) (mkl (f j) n ++ mkl (g j) c)
  blk : ∀ (j : Nat) l q, ls[j]? = some l → l.ownBlock = some q → (∃ v, vs[j]? = some v ∧ v.ownBlock = some q) ∨ B1 ≤ q
  lt : ∀ (j : Nat) v q, vs[j]? = some v → v.ownBlock = some q → q < B1
  dis : ∀ (i j : Nat) vi vj g, vs[i]? = some vi → vs[j]? = some vj → vi.ownBlock = some g → vj.ownBlock = some g → i = j
theorem Ow.start {w : World} {B t e : Nat} {vs : List Value} {ns : List Nat} {f g : Nat → Nat → List Value} {c : Nat} (h : En w B t e vs ns (fun j => mkl (f j) (ns.getD j 0))) : Ow w B w.heap.size t e vs ns f g c [] 0 := by
  have hr : ∀ (j : Nat) v n, vs[j]? = some v → ns[j]? = some n → w.ownsRow B t e v n (mkl (f j) n) := fun j v n hv hn => by
    have := h.row j v n hv hn
    rwa [List.getD_eq_getElem?_getD, hn] at this
  refine ⟨rfl, h.len, fun j v n _ hv hn => hr j v n hv hn, fun j v n hj => by omega, fun j l n hl => by simp at hl, fun j l q hl => by simp at hl, fun j v q hv hq => ?_, h.dis⟩
  have hl := (List.getElem?_eq_some_iff.1 hv).1
  exact own_lt (hr j v _ hv (List.getElem?_eq_getElem (by rw [h.len]; exact hl))) hq
/-- kept where none of the blocks is touched -/
theorem Ow.keep {w w' : World} {B B1 t e : Nat} {vs : List Value} {ns : List Nat} {f g : Nat → Nat → List Value} {c i : Nat} {ls : List Value} (h : Ow w B B1 t e vs ns f g c ls i) {T : Nat → Prop} (k : Kp T w w') (hT : ∀ (q : Nat) (cc : Array Value), w.heap[q]? = some (.cells cc t (0, 0)) → ¬ T q) : Ow w' B B1 t e vs ns f g c ls i :=
  ⟨h.len, h.lev, fun j v n hj hv hn => own_keep (h.own j v n hj hv hn) (fun q e => by
    obtain ⟨cc, hc⟩ := own_obj (h.own j v n hj hv hn) e
    exact k.block q (blk_lt hc) (hT q cc hc)), fun j v n hj hv hn => (h.old j v n hj hv hn).keep (fun q e => by
    obtain ⟨cc, hc⟩ := (h.old j v n hj hv hn).obj e
    exact k.block q (blk_lt hc) (hT q cc hc)), fun j l n hl hn => (h.new j l n hl hn).keep (fun q e => by
    obtain ⟨cc, hc⟩ := (h.new j l n hl hn).obj e
    exact k.block q (blk_lt hc) (hT q cc hc)), h.blk, h.lt, h.dis⟩
/-- one list more has grown -/
theorem Ow.step {w w' : World} {B B1 t e : Nat} {vs : List Value} {ns : List Nat} {f g : Nat → Nat → List Value} {c i n : Nat} {ls : List Value} {v l : Value} (h : Ow w B B1 t e vs ns f g c ls i) (hv : vs[i]? = some v) (hn : ns[i]? = some n) (hB1 : B1 ≤ w.heap.size)
    (hG : Ol w w' B t e v l n (n + c) (mkl (f i) n) (mkl (g i) c)) {T : Nat → Prop} (k : Kp T w w') (hT : ∀ (q : Nat) (cc : Array Value), w.heap[q]? = some (.cells cc t (0, 0)) → T q → some q = v.ownBlock) : Ow w' B B1 t e vs ns f g c (ls ++ [l]) (i + 1) := by
  have hlen := h.len
  have ext : ∀ (j : Nat) x, (ls ++ [l])[j]? = some x → ls[j]? = some x ∨ (j = i ∧ x = l) := fun j x hx => by
    rw [List.getElem?_append] at hx
    split at hx
    · exact .inl hx
    · rw [List.getElem?_singleton] at hx
      split at hx
      · cases hx; exact .inr ⟨by omega, rfl⟩
      · cases hx
  refine ⟨by rw [List.length_append]; simp [hlen], h.lev, fun j u m hj hu hm => ?_, fun j u m hj hu hm => ?_, fun j x m hx hm => ?_, fun j x q hx hq => ?_, h.lt, h.dis⟩
  · have hr := h.own j u m (by omega) hu hm
    exact own_keep hr (fun q e => by
      obtain ⟨cc, hc⟩ := own_obj hr e
      exact k.block q (blk_lt hc) (fun hTq => by
        have := h.dis j i u v q hu hv e (hT q cc hc hTq).symm
        omega))
  · by_cases ej : j = i
    · subst ej
      rw [hv] at hu; rw [hn] at hm
      cases hu; cases hm
      exact hG.old
    · have hr := h.old j u m (by omega) hu hm
      exact hr.keep (fun q e => by
        obtain ⟨cc, hc⟩ := hr.obj e
        exact k.block q (blk_lt hc) (fun hTq => ej (h.dis j i u v q hu hv e (hT q cc hc hTq).symm)))
  · rcases ext j x hx with hx | ⟨rfl, rfl⟩
    · have hr := h.new j x m hx hm
      exact hr.keep (fun q e => by
        obtain ⟨cc, hc⟩ := hr.obj e
        exact k.block q (blk_lt hc) (fun hTq => by
          have e2 := (hT q cc hc hTq).symm
          have hji : j < i := by rw [← hlen]; exact (List.getElem?_eq_some_iff.1 hx).1
          rcases h.blk j x q hx e with ⟨u, hu, e3⟩ | e3
          · have := h.dis j i u v q hu hv e3 e2
            omega
          · have := h.lt i v q hv e2
            omega))
    · rw [hn] at hm
      cases hm
      exact Rdr.of_own hG.own
  · rcases ext j x hx with hx | ⟨rfl, rfl⟩
    · exact h.blk j x q hx hq
    · rcases hG.blk q hq with e | e
      · exact .inl ⟨v, hv, e⟩
      · exact .inr (by omega)
theorem app_at {F G : Nat → List Value} {e n c k j : Nat} (hF : ∀ k, (F k).length = e) (hG : ∀ k, (G k).length = e) (h1 : n ≤ k) (h2 : k < n + c) (hj : j < e) : (mkl F n ++ mkl G c)[k * e + j]? = (G (k - n))[j]? := by
  have hl := mkl_len hF n
  have h3 : n * e ≤ k * e := Nat.mul_le_mul_right _ h1
  rw [List.getElem?_append_right (by rw [hl]; omega), hl]
  have h4 : k * e + j - n * e = (k - n) * e + j := by
    rw [Nat.sub_mul]; omega
  rw [h4]
  exact mkl_at hG (by omega) hj
theorem mkl_zero (F : Nat → List Value) : mkl F 0 = [] := rfl
theorem Ow.full {w : World} {B B1 t e : Nat} {vs : List Value} {ns : List Nat} {f g : Nat → Nat → List Value} {c i : Nat} {ls : List Value} (h : Ow w B B1 t e vs ns f g c ls i) : Ow w B B1 t e vs ns f g c ls ls.length := by rw [h.len]; exact h
theorem Rdr.cast {w : World} {t e n m : Nat} {v : Value} {xs : List Value} (h : Rdr w t e v n xs) (hm : m = n) : Rdr w t e v m xs := by subst hm; exact h
theorem Ow.cellO {w : World} {B B1 t e : Nat} {vs : List Value} {ns : List Nat} {f g : Nat → Nat → List Value} {c i n cp j k q : Nat} {ls : List Value} {a : Option Addr} {u : Value} (h : Ow w B B1 t e vs ns f g c ls i) (hj : j < i) (hv : vs[j]? = some (.slice a n cp)) (hn : ns[j]? = some n) (hf : ∀ k, (f j k).length = e) (hk : k < n) (hq : q < e) (hu : (f j k)[q]? = some u) : ∃ b, a = some ⟨b, 0, none⟩ ∧ w.cell? ⟨b, k * e + q, none⟩ = some u :=
  (h.old j _ n hj hv hn).cell (by rw [mkl_at hf hk hq]; exact hu)
theorem Ow.cellN {w : World} {B B1 t e : Nat} {vs : List Value} {ns : List Nat} {f g : Nat → Nat → List Value} {c i n cp j k q : Nat} {ls : List Value} {a : Option Addr} {u : Value} (h : Ow w B B1 t e vs ns f g c ls i) (hl : ls[j]? = some (.slice a (n + c) cp)) (hn : ns[j]? = some n) (hf : ∀ k, (f j k).length = e) (hg : ∀ k, (g j k).length = e) (hk : n ≤ k) (hk2 : k < n + c) (hq : q < e) (hu : (g j (k - n))[q]? = some u) : ∃ b, a = some ⟨b, 0, none⟩ ∧ w.cell? ⟨b, k * e + q, none⟩ = some u :=
  (h.new j _ n hl hn).cell (by rw [app_at hf hg hk hk2 hq]; exact hu)
theorem kp_row {w w1 w2 : World} {v : Value} (k : Kp Nu w w1) (hg : w1.grownBy w2 v.ownBlock) : Kp (fun q => some q = v.ownBlock) w w2 := (k.mono (fun _ _ e => e.elim)).trans (Kp.of_grown hg) (fun _ _ e => e)
theorem Ol.cast {w0 w : World} {B t e n k c : Nat} {v l : Value} {xs : List Value} {g : Nat → List Value} (h : Ol w0 w B t e v l n (n + k) xs (mkl g k)) (ek : k = c) : Ol w0 w B t e v l n (n + c) xs (mkl g c) := by subst ek; exact h
theorem Rdr.cell2 {w : World} {t e n n' : Nat} {a : Option Addr} {c : Nat} {xs : List Value} (h : Rdr w t e (.slice a n' c) n xs) {j : Nat} {u : Value} (hj : xs[j]? = some u) : ∃ g, a = some ⟨g, 0, none⟩ ∧ w.cell? ⟨g, j, none⟩ = some u := by
  obtain ⟨a', c', e⟩ := h.slice
  simp only [Value.slice.injEq] at e
  obtain ⟨rfl, rfl, rfl⟩ := e
  exact h.cell hj
theorem two_addr {a : Option Addr} {b b' : Nat} {P : Nat → Prop} (h : a = some ⟨b, 0, none⟩) (h' : a = some ⟨b', 0, none⟩) (hp : P b') : P b := by
  rw [h] at h'; cases h'; exact hp
theorem w64s {x : Int} (h0 : -1000000000 ≤ x) (h1 : x ≤ 1000000000) : wrap64 x = x := by unfold wrap64; omega
theorem wi64s {x : Int} (h0 : -1000000000 ≤ x) (h1 : x ≤ 1000000000) : IntKind.i64.wrap x = x := by rw [IntKind.wrap_i64]; omega
theorem wu64s {x : Int} (h0 : 0 ≤ x) (h1 : x ≤ 1000000000) : IntKind.u64.wrap x = x := by rw [IntKind.wrap_u64]; omega
theorem nz (k : Nat) : (0 : Int) ≤ (k : Int) := by omega
theorem tn (k : Nat) : (k : Int).toNat = k := by omega
theorem tns (k : Nat) : ((k : Int) + 1).toNat = k + 1 := by omega
theorem ins (k : Nat) : Value.int .i64 ((k : Int) + 1) = Value.int .i64 ((k + 1 : Nat) : Int) := by rw [Int.natCast_succ]
theorem lti {k n : Nat} (h : k < n) : (k : Int) < (n : Int) := by omega
theorem nlti {k n : Nat} (h : ¬ k < n) : ¬ (k : Int) < (n : Int) := by omega
theorem gei {k n : Nat} (h : ¬ k < n) : (k : Int) ≥ (n : Int) := by omega
theorem fin20 {k n : Nat} (h : k < n) : k + 1 ≤ n ∧ n - (k + 1) < n - k := by omega
theorem ltc {k n c : Nat} (h : k < n + c) : (k : Int) < ((n + c : Nat) : Int) := by omega
theorem wn20 {n : Nat} (h : n ≤ 20000) : wrap64 ((n : Int) + 20) = (n : Int) + 20 ∧ IntKind.i64.wrap ((n : Int) + 20) = (n : Int) + 20 := ⟨w64s (by omega) (by omega), wi64s (by omega) (by omega)⟩
theorem wup {p : Nat} (h : p ≤ 100000) : IntKind.u64.wrap (p : Int) = (p : Int) := wu64s (by omega) (by omega)
theorem wp1000 {p : Nat} (h : p ≤ 100) : IntKind.u64.wrap ((p : Int) + 1000) = (p : Int) + 1000 ∧ IntKind.i64.wrap ((p : Int) + 1000) = (p : Int) + 1000 ∧ wrap64 ((p : Int) + 1000) = (p : Int) + 1000 := ⟨wu64s (by omega) (by omega), wi64s (by omega) (by omega), w64s (by omega) (by omega)⟩
theorem wk1 {k : Nat} (h : k ≤ 100000) : wrap64 ((k : Int) + 1) = (k : Int) + 1 ∧ IntKind.i64.wrap ((k : Int) + 1) = (k : Int) + 1 := ⟨w64s (by omega) (by omega), wi64s (by omega) (by omega)⟩
theorem kle {k n c : Nat} (h : k < n + c) (hn : n ≤ 20000) (hc : c ≤ 100) : k ≤ 100000 := by omega
end Go.Proofs.YtffcnonhhfhlhaaDoor.Rg
