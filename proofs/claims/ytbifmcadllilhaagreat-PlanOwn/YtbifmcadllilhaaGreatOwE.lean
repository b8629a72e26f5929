import Derived.Test.YtbifmcadllilhaaGreatOwC
namespace Go.Proofs.YtbifmcadllilhaaGreat.Rg
open Go.RowKit Go.Shelf Go.Sort
set_option linter.unusedVariables false
/-- a list out of its elements -/
def mkl (F : Nat → List Value) (n : Nat) : List Value := (List.range n).flatMap F
theorem mkl_succ (F : Nat → List Value) (n : Nat) : mkl F (n + 1) = mkl F n ++ F n := by simp [mkl, List.range_succ]
theorem mkl_len {F : Nat → List Value} {e : Nat} (hF : ∀ k, (F k).length = e) : ∀ n, (mkl F n).length = n * e
  | 0 => by simp [mkl]
  | n + 1 => by rw [mkl_succ, List.length_append, mkl_len hF n, hF, Nat.add_mul, Nat.one_mul]
theorem mkl_at {F : Nat → List Value} {e : Nat} (hF : ∀ k, (F k).length = e) {n k j : Nat} (hk : k < n) (hj : j < e) : (mkl F n)[k * e + j]? = (F k)[j]? := by
  induction n with
  | zero => omega
  | succ n ih =>
    rw [mkl_succ]
    by_cases c : k < n
    · rw [List.getElem?_append_left]
      · exact ih c
      · rw [mkl_len hF]
        have : (k + 1) * e ≤ n * e := Nat.mul_le_mul_right _ c
        rw [Nat.add_mul, Nat.one_mul] at this
        omega
    · have e1 : k = n := by omega
      subst e1
      rw [List.getElem?_append_right (by rw [mkl_len hF]; omega), mkl_len hF]
      congr 1
      omega
theorem own_cell {w : World} {B t e n g cap : Nat} {xs : List Value} (h : w.ownsRow B t e (.slice (some ⟨g, 0, none⟩) n cap) n xs) {j : Nat} {u : Value} (hj : xs[j]? = some u) : w.cell? ⟨g, j, none⟩ = some u := by
  obtain ⟨g', e1, h1⟩ := (Rdr.of_own h).cell hj
  cases e1
  exact h1
theorem own_free {w : World} {B t e n g cap : Nat} {xs : List Value} (h : w.ownsRow B t e (.slice (some ⟨g, 0, none⟩) n cap) n xs) (j : Nat) : w.frozen? ⟨g, j, none⟩ = false := by
  obtain ⟨cur, hc⟩ := own_obj h (g := g) rfl
  exact free3 hc j
/-- the lists that a book holds, and what stands in them -/
structure En (w : World) (B t e : Nat) (vs : List Value) (ns : List Nat) (X : Nat → List Value) : Prop where
  len : ns.length = vs.length
  row : ∀ (i : Nat) v n, vs[i]? = some v → ns[i]? = some n → w.ownsRow B t e v n (X i)
  dis : ∀ (i j : Nat) vi vj g, vs[i]? = some vi → vs[j]? = some vj → vi.ownBlock = some g → vj.ownBlock = some g → i = j
/-- their blocks -/
def Eb (vs : List Value) (g : Nat) : Prop := ∃ v ∈ vs, some g = v.ownBlock
theorem En.obj {w : World} {B t e : Nat} {vs : List Value} {ns : List Nat} {X : Nat → List Value} (h : En w B t e vs ns X) {g : Nat} (hg : Eb vs g) : B ≤ g ∧ ∃ c, w.heap[g]? = some (.cells c t (0, 0)) := by
  obtain ⟨v, hv, e1⟩ := hg
  obtain ⟨i, hi⟩ := List.getElem?_of_mem hv
  have hl := (List.getElem?_eq_some_iff.1 hi).1
  have hr := h.row i v _ hi (List.getElem?_eq_getElem (by rw [h.len]; exact hl))
  exact ⟨(hr.lt g e1.symm).1, own_obj hr e1.symm⟩
theorem En.keep {w w' : World} {B t e : Nat} {vs : List Value} {ns : List Nat} {X : Nat → List Value} (h : En w B t e vs ns X) {T : Nat → Prop} (k : Kp T w w') (hT : ∀ g, Eb vs g → ¬ T g) : En w' B t e vs ns X :=
  ⟨h.len, fun i v n hv hn => own_keep (h.row i v n hv hn) (fun g e => k.block g (own_lt (h.row i v n hv hn) e) (hT g ⟨v, List.mem_of_getElem? hv, e.symm⟩)), h.dis⟩
/-- blocks of another type are none of these -/
theorem En.ne {w : World} {B t e : Nat} {vs : List Value} {ns : List Nat} {X : Nat → List Value} (h : En w B t e vs ns X) {g : Nat} {c : Array Value} {t' : TypeId} (hg : w.heap[g]? = some (.cells c t' (0, 0))) (ht : t' ≠ t) : ¬ Eb vs g := fun e => by
  obtain ⟨_, c', hc⟩ := h.obj e
  rw [hg] at hc; cases hc; exact ht rfl
theorem En.apart {w : World} {B t e t' e' : Nat} {vs vs' : List Value} {ns ns' : List Nat} {X X' : Nat → List Value} (h : En w B t e vs ns X) (h' : En w B t' e' vs' ns' X') (ht : t ≠ t') : ∀ g, Eb vs g → ¬ Eb vs' g := fun g e => by
  obtain ⟨_, c, hc⟩ := h.obj e
  exact h'.ne hc ht
theorem Bk.apart {w : World} {B b t e : Nat} {mv sv iv : Value} {ml sl il vs : List Value} {ns : List Nat} {X : Nat → List Value} (h : Bk w B b mv sv iv ml sl il) (he : En w B t e vs ns X) (h1 : t ≠ 60) (h2 : t ≠ 27) (h3 : t ≠ 22) (h4 : t ≠ 45) : ∀ g, Bc b mv sv iv g → ¬ Eb vs g := fun g hg e => by
  obtain ⟨_, c, hc⟩ := he.obj e
  exact h.other hc h1 h2 h3 h4 hg
/-- one of them has other contents now -/
theorem En.turn {w w' : World} {B t e : Nat} {vs : List Value} {ns : List Nat} {X Y : Nat → List Value} (h : En w B t e vs ns X) {i n : Nat} {v : Value} (hv : vs[i]? = some v) (hn : ns[i]? = some n) (k : Kp (fun g => some g = v.ownBlock) w w') (hr : w'.ownsRow B t e v n (Y i)) (hY : ∀ j, j ≠ i → Y j = X j) : En w' B t e vs ns Y := by
  refine ⟨h.len, fun j u m hu hm => ?_, h.dis⟩
  by_cases c : j = i
  · subst c
    rw [hv] at hu; rw [hn] at hm
    cases hu; cases hm
    exact hr
  · rw [hY j c]
    have hj := h.row j u m hu hm
    exact own_keep hj (fun g e => k.block g (own_lt hj e) (fun e2 => c (h.dis j i u v g hu hv e e2.symm)))
theorem kp_eb {w w1 w2 : World} {vs : List Value} {i : Nat} {v : Value} (k : Kp (Eb vs) w w1) (hv : vs[i]? = some v) (k2 : Kp (fun g => some g = v.ownBlock) w1 w2) : Kp (Eb vs) w w2 :=
  k.trans k2 (fun g _ e => ⟨v, List.mem_of_getElem? hv, e⟩)
theorem set_five (A D : List Value) (v0 v1 v2 v3 v4 : Value) (hD : 5 ≤ D.length) : (((((A ++ D).set A.length v0).set (A.length + 1) v1).set (A.length + 2) v2).set (A.length + 3) v3).set (A.length + 4) v4 = A ++ ([v0, v1, v2, v3, v4] ++ D.drop 5) := by
  match D, hD with
  | d0 :: d1 :: d2 :: d3 :: d4 :: D, _ => simp [List.set_append_right]
theorem set_three (A D : List Value) (v0 v1 v2 : Value) (hD : 3 ≤ D.length) : (((A ++ D).set A.length v0).set (A.length + 1) v1).set (A.length + 2) v2 = A ++ ([v0, v1, v2] ++ D.drop 3) := by
  match D, hD with
  | d0 :: d1 :: d2 :: D, _ => simp [List.set_append_right]
theorem set_one (A D : List Value) (v0 : Value) (hD : 1 ≤ D.length) : (A ++ D).set A.length v0 = A ++ ([v0] ++ D.drop 1) := by
  match D, hD with
  | d0 :: D, _ => simp [List.set_append_right]
/-- how far a list has been written over -/
def part (F : Nat → List Value) (e : Nat) (X : List Value) (k : Nat) : List Value := mkl F k ++ X.drop (k * e)
theorem part_zero (F : Nat → List Value) (e : Nat) (X : List Value) : part F e X 0 = X := by simp [part, mkl]
theorem part_full {F : Nat → List Value} {e n : Nat} {X : List Value} (hX : X.length = n * e) : part F e X n = mkl F n := by
  unfold part
  rw [List.drop_of_length_le (by omega), List.append_nil]
theorem part_len {F : Nat → List Value} {e n k : Nat} {X : List Value} (hF : ∀ k, (F k).length = e) (hX : X.length = n * e) (hk : k ≤ n) : (part F e X k).length = n * e := by
  unfold part
  rw [List.length_append, mkl_len hF, List.length_drop, hX]
  have := Nat.mul_le_mul_right e hk
  omega
theorem part_step5 {F : Nat → List Value} {n k : Nat} {X : List Value} {v0 v1 v2 v3 v4 : Value} (hF : ∀ k, (F k).length = 5) (hX : X.length = n * 5) (hk : k < n) (hv : F k = [v0, v1, v2, v3, v4]) :
    (((((part F 5 X k).set (k * 5) v0).set (k * 5 + 1) v1).set (k * 5 + 2) v2).set (k * 5 + 3) v3).set (k * 5 + 4) v4 = part F 5 X (k + 1) := by
  have hl := mkl_len hF k
  have h := set_five (mkl F k) (X.drop (k * 5)) v0 v1 v2 v3 v4 (by rw [List.length_drop]; omega)
  rw [hl] at h
  unfold part
  rw [h, mkl_succ, hv, List.drop_drop, List.append_assoc, Nat.add_mul]
theorem part_step3 {F : Nat → List Value} {n k : Nat} {X : List Value} {v0 v1 v2 : Value} (hF : ∀ k, (F k).length = 3) (hX : X.length = n * 3) (hk : k < n) (hv : F k = [v0, v1, v2]) :
    (((part F 3 X k).set (k * 3) v0).set (k * 3 + 1) v1).set (k * 3 + 2) v2 = part F 3 X (k + 1) := by
  have hl := mkl_len hF k
  have h := set_three (mkl F k) (X.drop (k * 3)) v0 v1 v2 (by rw [List.length_drop]; omega)
  rw [hl] at h
  unfold part
  rw [h, mkl_succ, hv, List.drop_drop, List.append_assoc, Nat.add_mul]
theorem part_step1 {F : Nat → List Value} {n k : Nat} {X : List Value} {v0 : Value} (hF : ∀ k, (F k).length = 1) (hX : X.length = n * 1) (hk : k < n) (hv : F k = [v0]) : (part F 1 X k).set k v0 = part F 1 X (k + 1) := by
  have hl := mkl_len hF k
  rw [Nat.mul_one] at hl
  have h := set_one (mkl F k) (X.drop k) v0 (by rw [List.length_drop]; omega)
  rw [hl] at h
  unfold part
  rw [Nat.mul_one, Nat.mul_one, h, mkl_succ, hv, List.drop_drop, List.append_assoc]
/-- the marks -/
def fM (i k : Nat) : List Value := [.int .u8 0, .int .u8 0, .int .u64 (i : Int), .int .u64 (k : Int), .int .i64 0]
def fS (i k : Nat) : List Value := [.int .u64 (i : Int), .int .u64 (k : Int), .int .u8 0]
def fI (i k : Nat) : List Value := [.int .i64 (-1000 * (i : Int) - (k : Int) - 1)]
/-- lists of which the first i have been marked -/
def cutX (f : Nat → Nat → List Value) (ns : List Nat) (X : Nat → List Value) (i j : Nat) : List Value := if j < i then mkl (f j) (ns.getD j 0) else X j
end Go.Proofs.YtbifmcadllilhaaGreat.Rg
namespace Go.Proofs.YtbifmcadllilhaaGreat.Rg
open Go.RowKit Go.Shelf Go.Sort
open Go.Proofs.YtbifmcadllilhaaGreat.It
set_option linter.unusedVariables false
theorem own_blk {w : World} {B t e n : Nat} {v : Value} {xs : List Value} (h : w.ownsRow B t e v n xs) (hn : 0 < n) : ∃ g c, v = .slice (some ⟨g, 0, none⟩) n c := by
  rcases h.2 with ⟨_, h0⟩ | ⟨g, cap, cur, e1, _⟩
  · omega
  · exact ⟨g, cap, e1⟩
theorem cutX_zero (f : Nat → Nat → List Value) (ns : List Nat) (X : Nat → List Value) : cutX f ns X 0 = X := by
  funext j; simp [cutX]
theorem cutX_at (f : Nat → Nat → List Value) (ns : List Nat) (X : Nat → List Value) (i : Nat) : cutX f ns X i i = X i := by simp [cutX]
theorem cutX_succ {f : Nat → Nat → List Value} {ns : List Nat} {X : Nat → List Value} {i n : Nat} (hn : ns[i]? = some n) : cutX f ns X (i + 1) i = mkl (f i) n := by
  unfold cutX
  rw [if_pos (by omega), List.getD_eq_getElem?_getD, hn]
  rfl
theorem cutX_oth {f : Nat → Nat → List Value} {ns : List Nat} {X : Nat → List Value} {i j : Nat} (h : j ≠ i) : cutX f ns X (i + 1) j = cutX f ns X i j := by
  unfold cutX
  by_cases c : j < i
  · rw [if_pos c, if_pos (by omega)]
  · rw [if_neg c, if_neg (by omega)]
/-- all marked -/
theorem En.full {w : World} {B t e : Nat} {vs : List Value} {ns : List Nat} {f : Nat → Nat → List Value} {X : Nat → List Value} {i : Nat} (h : En w B t e vs ns (cutX f ns X i)) (hi : vs.length ≤ i) : En w B t e vs ns (fun j => mkl (f j) (ns.getD j 0)) :=
  ⟨h.len, fun j v n hv hn => by
    have hl := (List.getElem?_eq_some_iff.1 hv).1
    have := h.row j v n hv hn
    unfold cutX at this
    rwa [if_pos (by omega)] at this, h.dis⟩
set_option maxRecDepth 100000 in
set_option maxHeartbeats 4000000 in
theorem marks41 (w : World) (B b : Nat) (mv sv iv : Value) (ml sl il : List Value) (mn sn kn : List Nat) (X Y Z : Nat → List Value) (hB : Bk w B b mv sv iv ml sl il) (hM : En w B 41 5 ml mn X) (hS : En w B 38 3 sl sn Y) (hI : En w B 3 1 il kn Z) (m1 : 0 < ml.length) (m2 : ml.length ≤ 100) (s1 : 0 < sl.length) (s2 : sl.length ≤ 100) (i1 : 0 < il.length) (i2 : il.length ≤ 100) (hmn : ∀ n ∈ mn, n ≤ 20000) (hsn : ∀ n ∈ sn, n ≤ 20000) (hkn : ∀ n ∈ kn, n ≤ 20000) :
    Calls Tryz.prog 41 #[.pointer (some ⟨b, 0, none⟩)] w fun e w' => e = .returned (.tuple #[]) ∧ Bk w' B b mv sv iv ml sl il ∧ En w' B 41 5 ml mn (fun j => mkl (fM j) (mn.getD j 0)) ∧ En w' B 38 3 sl sn (fun j => mkl (fS j) (sn.getD j 0)) ∧ En w' B 3 1 il kn (fun j => mkl (fI j) (kn.getD j 0)) ∧ Kp (fun g => Eb ml g ∨ Eb sl g ∨ Eb il g) w w' := by
  obtain ⟨mg, mc, emv⟩ := own_blk hB.m m1
  obtain ⟨sg, sc, esv⟩ := own_blk hB.s s1
  obtain ⟨ig, ic, eiv⟩ := own_blk hB.i i1
  subst emv
  subst esv
  subst eiv
  obtain ⟨MN, eMN⟩ : ∃ n, ml.length = n := ⟨_, rfl⟩
  obtain ⟨SN, eSN⟩ : ∃ n, sl.length = n := ⟨_, rfl⟩
  obtain ⟨IN, eIN⟩ : ∃ n, il.length = n := ⟨_, rfl⟩
  have HA := hide (And.intro hB (And.intro hM (And.intro hS (And.intro hI (And.intro hmn (And.intro hsn hkn))))))
  rw [eMN] at m1 m2 HA
  rw [eSN] at s1 s2 HA
  rw [eIN] at i1 i2 HA
  have HN := hide (And.intro eMN (And.intro eSN eIN))
  have hMI : (MN : Int) ≤ 100 := by omega
  have hSI : (SN : Int) ≤ 100 := by omega
  have hII : (IN : Int) ≤ 100 := by omega
  clear hB hM hS hI hmn hsn hkn eMN eSN eIN
  go_enter Tryz.func41, Tryz.ntmps41
  go_wp2
  go_loopw [2] (fun iv wr => ∃ i : Nat, iv = .int .i64 (i : Int) ∧ i ≤ MN ∧ Hid (En wr B 41 5 ml mn (cutX fM mn X i) ∧ Kp (Eb ml) w wr)) (fun iv _ => MN - (intOf iv).toNat)
  case atStart => exact ⟨0, rfl, Nat.zero_le _, hide ⟨by rw [cutX_zero]; exact HA.out.2.1, Kp.refl _ _⟩⟩
  case round =>
    obtain ⟨i, rfl, hi, hE⟩ := hrel
    have hB1 : Bk wr B b (.slice (some ⟨mg, 0, none⟩) MN mc) (.slice (some ⟨sg, 0, none⟩) SN sc) (.slice (some ⟨ig, 0, none⟩) IN ic) ml sl il := HA.out.1.keep hE.out.2 (HA.out.1.apart HA.out.2.1 (by decide) (by decide) (by decide) (by decide))
    obtain ⟨c0, c1, c2⟩ := cell3 hB1.blk
    have hi0 : (0 : Int) ≤ (i : Int) := by omega
    by_cases hlt : i < MN
    · have hltI : (i : Int) < (MN : Int) := by omega
      have eti : (i : Int).toNat = i := by omega
      obtain ⟨v, hv⟩ : ∃ v, ml[i]? = some v := ⟨_, List.getElem?_eq_getElem (by have := HN.out; omega)⟩
      obtain ⟨n, hn⟩ : ∃ n, mn[i]? = some n := ⟨_, List.getElem?_eq_getElem (by have := HN.out; have := hE.out.1.len; omega)⟩
      have hrow := hE.out.1.row i v n hv hn
      rw [cutX_at] at hrow
      have hn2 := HA.out.2.2.2.2.1 n (List.mem_of_getElem? hn)
      have hnI : (n : Int) ≤ 20000 := by omega
      have hcell : wr.cell? ⟨mg, i, none⟩ = some v := own_cell (B := B) (by have h := hB1.m; rw [HN.out.1] at h; exact h) hv
      obtain ⟨va, vc, ev⟩ := own_slice hrow
      have ewi : IntKind.u64.wrap (i : Int) = (i : Int) := by rw [IntKind.wrap_u64]; omega
      have HV := hide (And.intro hv (And.intro hn (And.intro hrow (And.intro hB1 hrow.1))))
      subst ev
      clear hv hn hrow hB1
      go_wp2
      go_loopw [3] (fun kv wq => ∃ k : Nat, kv = .int .i64 (k : Int) ∧ k ≤ n ∧ Hid (wq.ownsRow B 41 5 (.slice va n vc) n (part (fM i) 5 (X i) k) ∧ Kp (fun g => some g = (Value.slice va n vc).ownBlock) wr wq)) (fun kv _ => n - (intOf kv).toNat)
      case atStart => exact ⟨0, rfl, Nat.zero_le _, hide ⟨by rw [part_zero]; exact HV.out.2.2.1, Kp.refl _ _⟩⟩
      case round =>
        rename_i wr0
        obtain ⟨k, rfl, hk, hQ⟩ := hrel
        have hk0 : (0 : Int) ≤ (k : Int) := by omega
        have kq := hQ.out.2
        have nq : ∀ g, Bc b (.slice (some ⟨mg, 0, none⟩) MN mc) (.slice (some ⟨sg, 0, none⟩) SN sc) (.slice (some ⟨ig, 0, none⟩) IN ic) g → ¬ some g = (Value.slice va n vc).ownBlock := fun g hg e => by
          obtain ⟨c, hc⟩ := own_obj HV.out.2.2.1 e.symm
          exact HV.out.2.2.2.1.other hc (by decide) (by decide) (by decide) (by decide) hg
        have hB2 := HV.out.2.2.2.1.keep kq nq
        obtain ⟨d0, d1, d2⟩ := cell3 hB2.blk
        have hcell2 : wr.cell? ⟨mg, i, none⟩ = some (.slice va n vc) := own_cell (B := B) (by have h := hB2.m; rw [HN.out.1] at h; exact h) HV.out.1
        clear kq nq hB2 hcell c0 c1 c2
        by_cases hlk : k < n
        · have hlkI : (k : Int) < (n : Int) := by omega
          have etk : (k : Int).toNat = k := by omega
          obtain ⟨vg, vc', ev⟩ := own_blk hQ.out.1 (by omega)
          simp only [Value.slice.injEq, true_and] at ev
          obtain ⟨eva, evc⟩ := ev
          subst eva
          have hq := hQ.out.1
          have hpl := part_len (F := fM i) (e := 5) (n := n) (k := k) (X := X i) (fun _ => rfl) HV.out.2.2.2.2 (by omega)
          obtain ⟨u0, hu0⟩ : ∃ u, (part (fM i) 5 (X i) k)[k * 5]? = some u := ⟨_, List.getElem?_eq_getElem (by rw [hpl]; omega)⟩
          have x0 := own_cell hq hu0
          have y0 := own_free hq (k * 5)
          obtain ⟨u1, hu1⟩ : ∃ u, (part (fM i) 5 (X i) k)[k * 5 + 1]? = some u := ⟨_, List.getElem?_eq_getElem (by rw [hpl]; omega)⟩
          have x1 := own_cell hq hu1
          have y1 := own_free hq (k * 5 + 1)
          obtain ⟨u2, hu2⟩ : ∃ u, (part (fM i) 5 (X i) k)[k * 5 + 2]? = some u := ⟨_, List.getElem?_eq_getElem (by rw [hpl]; omega)⟩
          have x2 := own_cell hq hu2
          have y2 := own_free hq (k * 5 + 2)
          obtain ⟨u3, hu3⟩ : ∃ u, (part (fM i) 5 (X i) k)[k * 5 + 3]? = some u := ⟨_, List.getElem?_eq_getElem (by rw [hpl]; omega)⟩
          have x3 := own_cell hq hu3
          have y3 := own_free hq (k * 5 + 3)
          obtain ⟨u4, hu4⟩ : ∃ u, (part (fM i) 5 (X i) k)[k * 5 + 4]? = some u := ⟨_, List.getElem?_eq_getElem (by rw [hpl]; omega)⟩
          have x4 := own_cell hq hu4
          have y4 := own_free hq (k * 5 + 4)
          have ewk : IntKind.u64.wrap (k : Int) = (k : Int) := by rw [IntKind.wrap_u64]; omega

          have HP := hide (And.intro (by have h := own_put (own_put (own_put (own_put (own_put (hq) (k * 5) (.int .u8 0) (by (try simp only [List.length_set]); rw [hpl]; omega)) (k * 5 + 1) (.int .u8 0) (by (try simp only [List.length_set]); rw [hpl]; omega)) (k * 5 + 2) (.int .u64 (i : Int)) (by (try simp only [List.length_set]); rw [hpl]; omega)) (k * 5 + 3) (.int .u64 (k : Int)) (by (try simp only [List.length_set]); rw [hpl]; omega)) (k * 5 + 4) (.int .i64 0) (by (try simp only [List.length_set]); rw [hpl]; omega); rw [part_step5 (F := fM i) (n := n) (fun _ => rfl) HV.out.2.2.2.2 hlk rfl] at h; exact h) ((((((hQ.out.2).andSet ⟨vg, k * 5, none⟩ (.int .u8 0) (.inr rfl)).andSet ⟨vg, k * 5 + 1, none⟩ (.int .u8 0) (.inr rfl)).andSet ⟨vg, k * 5 + 2, none⟩ (.int .u64 (i : Int)) (.inr rfl)).andSet ⟨vg, k * 5 + 3, none⟩ (.int .u64 (k : Int)) (.inr rfl)).andSet ⟨vg, k * 5 + 4, none⟩ (.int .i64 0) (.inr rfl)))
          clear hq hpl evc hu0 hu1 hu2 hu3 hu4
          go_wp2
          exact ⟨⟨k + 1, by go_num, by omega, hide ⟨HP.out.1, HP.out.2⟩⟩, by simp [intOf]; omega⟩
        · have hlkI : ¬ (k : Int) < (n : Int) := by omega
          obtain rfl : n = k := by omega
          have HE2 : Hid (En wr B 41 5 ml mn (cutX fM mn X (i + 1)) ∧ Kp (Eb ml) w wr) := by
            obtain ⟨h1, h2⟩ := hQ.out
            obtain ⟨hv, hn, hrow, _, hxl⟩ := HV.out
            rw [part_full hxl] at h1
            exact hide ⟨hE.out.1.turn hv hn h2 (by rw [cutX_succ hn]; exact h1) (fun j hj => cutX_oth hj), kp_eb hE.out.2 hv h2⟩
          go_wp2
          exact ⟨⟨i + 1, by go_num, by omega, HE2⟩, by simp [intOf]; omega⟩
    · have hltI : ¬ (i : Int) < (MN : Int) := by omega
      have HF1 : Hid (En wr B 41 5 ml mn (fun j => mkl (fM j) (mn.getD j 0)) ∧ Kp (Eb ml) w wr) := hide ⟨hE.out.1.full (by have := HN.out; omega), hE.out.2⟩
      have HB1 := hide hB1
      clear hE hB1 hlt
      go_wp2
      have HS1 : Hid (En wr B 38 3 sl sn Y) := hide (HA.out.2.2.1.keep HF1.out.2 (HA.out.2.2.1.apart HA.out.2.1 (by decide)))
      have HI1 : Hid (En wr B 3 1 il kn Z) := hide (HA.out.2.2.2.1.keep HF1.out.2 (HA.out.2.2.2.1.apart HA.out.2.1 (by decide)))
      generalize wr = wA at *
      go_loopw [4] (fun iv wr => ∃ i : Nat, iv = .int .i64 (i : Int) ∧ i ≤ SN ∧ Hid (En wr B 38 3 sl sn (cutX fS sn Y i) ∧ Kp (Eb sl) wA wr)) (fun iv _ => SN - (intOf iv).toNat)
      case atStart => exact ⟨0, rfl, Nat.zero_le _, hide ⟨by rw [cutX_zero]; exact HS1.out, Kp.refl _ _⟩⟩
      case round =>
        obtain ⟨i, rfl, hi, hE⟩ := hrel
        have hB1 : Bk wr B b (.slice (some ⟨mg, 0, none⟩) MN mc) (.slice (some ⟨sg, 0, none⟩) SN sc) (.slice (some ⟨ig, 0, none⟩) IN ic) ml sl il := HB1.out.keep hE.out.2 (HB1.out.apart HS1.out (by decide) (by decide) (by decide) (by decide))
        obtain ⟨c0, c1, c2⟩ := cell3 hB1.blk
        have hi0 : (0 : Int) ≤ (i : Int) := by omega
        by_cases hlt : i < SN
        · have hltI : (i : Int) < (SN : Int) := by omega
          have eti : (i : Int).toNat = i := by omega
          obtain ⟨v, hv⟩ : ∃ v, sl[i]? = some v := ⟨_, List.getElem?_eq_getElem (by have := HN.out; omega)⟩
          obtain ⟨n, hn⟩ : ∃ n, sn[i]? = some n := ⟨_, List.getElem?_eq_getElem (by have := HN.out; have := hE.out.1.len; omega)⟩
          have hrow := hE.out.1.row i v n hv hn
          rw [cutX_at] at hrow
          have hn2 := HA.out.2.2.2.2.2.1 n (List.mem_of_getElem? hn)
          have hnI : (n : Int) ≤ 20000 := by omega
          have hcell : wr.cell? ⟨sg, i, none⟩ = some v := own_cell (B := B) (by have h := hB1.s; rw [HN.out.2.1] at h; exact h) hv
          obtain ⟨va, vc, ev⟩ := own_slice hrow
          have ewi : IntKind.u64.wrap (i : Int) = (i : Int) := by rw [IntKind.wrap_u64]; omega
          have HV := hide (And.intro hv (And.intro hn (And.intro hrow (And.intro hB1 hrow.1))))
          subst ev
          clear hv hn hrow hB1
          go_wp2
          go_loopw [5] (fun kv wq => ∃ k : Nat, kv = .int .i64 (k : Int) ∧ k ≤ n ∧ Hid (wq.ownsRow B 38 3 (.slice va n vc) n (part (fS i) 3 (Y i) k) ∧ Kp (fun g => some g = (Value.slice va n vc).ownBlock) wr wq)) (fun kv _ => n - (intOf kv).toNat)
          case atStart => exact ⟨0, rfl, Nat.zero_le _, hide ⟨by rw [part_zero]; exact HV.out.2.2.1, Kp.refl _ _⟩⟩
          case round =>
            rename_i wr0
            obtain ⟨k, rfl, hk, hQ⟩ := hrel
            have hk0 : (0 : Int) ≤ (k : Int) := by omega
            have kq := hQ.out.2
            have nq : ∀ g, Bc b (.slice (some ⟨mg, 0, none⟩) MN mc) (.slice (some ⟨sg, 0, none⟩) SN sc) (.slice (some ⟨ig, 0, none⟩) IN ic) g → ¬ some g = (Value.slice va n vc).ownBlock := fun g hg e => by
              obtain ⟨c, hc⟩ := own_obj HV.out.2.2.1 e.symm
              exact HV.out.2.2.2.1.other hc (by decide) (by decide) (by decide) (by decide) hg
            have hB2 := HV.out.2.2.2.1.keep kq nq
            obtain ⟨d0, d1, d2⟩ := cell3 hB2.blk
            have hcell2 : wr.cell? ⟨sg, i, none⟩ = some (.slice va n vc) := own_cell (B := B) (by have h := hB2.s; rw [HN.out.2.1] at h; exact h) HV.out.1
            clear kq nq hB2 hcell c0 c1 c2
            by_cases hlk : k < n
            · have hlkI : (k : Int) < (n : Int) := by omega
              have etk : (k : Int).toNat = k := by omega
              obtain ⟨vg, vc', ev⟩ := own_blk hQ.out.1 (by omega)
              simp only [Value.slice.injEq, true_and] at ev
              obtain ⟨eva, evc⟩ := ev
              subst eva
              have hq := hQ.out.1
              have hpl := part_len (F := fS i) (e := 3) (n := n) (k := k) (X := Y i) (fun _ => rfl) HV.out.2.2.2.2 (by omega)
              obtain ⟨u0, hu0⟩ : ∃ u, (part (fS i) 3 (Y i) k)[k * 3]? = some u := ⟨_, List.getElem?_eq_getElem (by rw [hpl]; omega)⟩
              have x0 := own_cell hq hu0
              have y0 := own_free hq (k * 3)
              obtain ⟨u1, hu1⟩ : ∃ u, (part (fS i) 3 (Y i) k)[k * 3 + 1]? = some u := ⟨_, List.getElem?_eq_getElem (by rw [hpl]; omega)⟩
              have x1 := own_cell hq hu1
              have y1 := own_free hq (k * 3 + 1)
              obtain ⟨u2, hu2⟩ : ∃ u, (part (fS i) 3 (Y i) k)[k * 3 + 2]? = some u := ⟨_, List.getElem?_eq_getElem (by rw [hpl]; omega)⟩
              have x2 := own_cell hq hu2
              have y2 := own_free hq (k * 3 + 2)
              have ewk : IntKind.u64.wrap (k : Int) = (k : Int) := by rw [IntKind.wrap_u64]; omega

              have HP := hide (And.intro (by have h := own_put (own_put (own_put (hq) (k * 3) (.int .u64 (i : Int)) (by (try simp only [List.length_set]); rw [hpl]; omega)) (k * 3 + 1) (.int .u64 (k : Int)) (by (try simp only [List.length_set]); rw [hpl]; omega)) (k * 3 + 2) (.int .u8 0) (by (try simp only [List.length_set]); rw [hpl]; omega); rw [part_step3 (F := fS i) (n := n) (fun _ => rfl) HV.out.2.2.2.2 hlk rfl] at h; exact h) ((((hQ.out.2).andSet ⟨vg, k * 3, none⟩ (.int .u64 (i : Int)) (.inr rfl)).andSet ⟨vg, k * 3 + 1, none⟩ (.int .u64 (k : Int)) (.inr rfl)).andSet ⟨vg, k * 3 + 2, none⟩ (.int .u8 0) (.inr rfl)))
              clear hq hpl evc hu0 hu1 hu2
              go_wp2
              exact ⟨⟨k + 1, by go_num, by omega, hide ⟨HP.out.1, HP.out.2⟩⟩, by simp [intOf]; omega⟩
            · have hlkI : ¬ (k : Int) < (n : Int) := by omega
              obtain rfl : n = k := by omega
              have HE2 : Hid (En wr B 38 3 sl sn (cutX fS sn Y (i + 1)) ∧ Kp (Eb sl) wA wr) := by
                obtain ⟨h1, h2⟩ := hQ.out
                obtain ⟨hv, hn, hrow, _, hxl⟩ := HV.out
                rw [part_full hxl] at h1
                exact hide ⟨hE.out.1.turn hv hn h2 (by rw [cutX_succ hn]; exact h1) (fun j hj => cutX_oth hj), kp_eb hE.out.2 hv h2⟩
              go_wp2
              exact ⟨⟨i + 1, by go_num, by omega, HE2⟩, by simp [intOf]; omega⟩
        · have hltI : ¬ (i : Int) < (SN : Int) := by omega
          have HF2 : Hid (En wr B 38 3 sl sn (fun j => mkl (fS j) (sn.getD j 0)) ∧ Kp (Eb sl) wA wr) := hide ⟨hE.out.1.full (by have := HN.out; omega), hE.out.2⟩
          have HB2 := hide hB1
          clear hE hB1 hlt
          go_wp2
          have HI2 : Hid (En wr B 3 1 il kn Z) := hide (HI1.out.keep HF2.out.2 (HI1.out.apart HS1.out (by decide)))
          generalize wr = wB at *
          go_loopw [6] (fun iv wr => ∃ i : Nat, iv = .int .i64 (i : Int) ∧ i ≤ IN ∧ Hid (En wr B 3 1 il kn (cutX fI kn Z i) ∧ Kp (Eb il) wB wr)) (fun iv _ => IN - (intOf iv).toNat)
          case atStart => exact ⟨0, rfl, Nat.zero_le _, hide ⟨by rw [cutX_zero]; exact HI2.out, Kp.refl _ _⟩⟩
          case round =>
            obtain ⟨i, rfl, hi, hE⟩ := hrel
            have hB1 : Bk wr B b (.slice (some ⟨mg, 0, none⟩) MN mc) (.slice (some ⟨sg, 0, none⟩) SN sc) (.slice (some ⟨ig, 0, none⟩) IN ic) ml sl il := HB2.out.keep hE.out.2 (HB2.out.apart HI2.out (by decide) (by decide) (by decide) (by decide))
            obtain ⟨c0, c1, c2⟩ := cell3 hB1.blk
            have hi0 : (0 : Int) ≤ (i : Int) := by omega
            by_cases hlt : i < IN
            · have hltI : (i : Int) < (IN : Int) := by omega
              have eti : (i : Int).toNat = i := by omega
              obtain ⟨v, hv⟩ : ∃ v, il[i]? = some v := ⟨_, List.getElem?_eq_getElem (by have := HN.out; omega)⟩
              obtain ⟨n, hn⟩ : ∃ n, kn[i]? = some n := ⟨_, List.getElem?_eq_getElem (by have := HN.out; have := hE.out.1.len; omega)⟩
              have hrow := hE.out.1.row i v n hv hn
              rw [cutX_at] at hrow
              have hn2 := HA.out.2.2.2.2.2.2 n (List.mem_of_getElem? hn)
              have hnI : (n : Int) ≤ 20000 := by omega
              have hcell : wr.cell? ⟨ig, i, none⟩ = some v := own_cell (B := B) (by have h := hB1.i; rw [HN.out.2.2] at h; exact h) hv
              obtain ⟨va, vc, ev⟩ := own_slice hrow
              have ewi : IntKind.u64.wrap (i : Int) = (i : Int) := by rw [IntKind.wrap_u64]; omega
              have HV := hide (And.intro hv (And.intro hn (And.intro hrow (And.intro hB1 hrow.1))))
              subst ev
              clear hv hn hrow hB1
              go_wp2
              go_loopw [7] (fun kv wq => ∃ k : Nat, kv = .int .i64 (k : Int) ∧ k ≤ n ∧ Hid (wq.ownsRow B 3 1 (.slice va n vc) n (part (fI i) 1 (Z i) k) ∧ Kp (fun g => some g = (Value.slice va n vc).ownBlock) wr wq)) (fun kv _ => n - (intOf kv).toNat)
              case atStart => exact ⟨0, rfl, Nat.zero_le _, hide ⟨by rw [part_zero]; exact HV.out.2.2.1, Kp.refl _ _⟩⟩
              case round =>
                rename_i wr0
                obtain ⟨k, rfl, hk, hQ⟩ := hrel
                have hk0 : (0 : Int) ≤ (k : Int) := by omega
                have kq := hQ.out.2
                have nq : ∀ g, Bc b (.slice (some ⟨mg, 0, none⟩) MN mc) (.slice (some ⟨sg, 0, none⟩) SN sc) (.slice (some ⟨ig, 0, none⟩) IN ic) g → ¬ some g = (Value.slice va n vc).ownBlock := fun g hg e => by
                  obtain ⟨c, hc⟩ := own_obj HV.out.2.2.1 e.symm
                  exact HV.out.2.2.2.1.other hc (by decide) (by decide) (by decide) (by decide) hg
                have hB2 := HV.out.2.2.2.1.keep kq nq
                obtain ⟨d0, d1, d2⟩ := cell3 hB2.blk
                have hcell2 : wr.cell? ⟨ig, i, none⟩ = some (.slice va n vc) := own_cell (B := B) (by have h := hB2.i; rw [HN.out.2.2] at h; exact h) HV.out.1
                clear kq nq hB2 hcell c0 c1 c2
                by_cases hlk : k < n
                · have hlkI : (k : Int) < (n : Int) := by omega
                  have etk : (k : Int).toNat = k := by omega
                  obtain ⟨vg, vc', ev⟩ := own_blk hQ.out.1 (by omega)
                  simp only [Value.slice.injEq, true_and] at ev
                  obtain ⟨eva, evc⟩ := ev
                  subst eva
                  have hq := hQ.out.1
                  have hpl := part_len (F := fI i) (e := 1) (n := n) (k := k) (X := Z i) (fun _ => rfl) HV.out.2.2.2.2 (by omega)
                  obtain ⟨u0, hu0⟩ : ∃ u, (part (fI i) 1 (Z i) k)[k]? = some u := ⟨_, List.getElem?_eq_getElem (by rw [hpl]; omega)⟩
                  have x0 := own_cell hq hu0
                  have y0 := own_free hq (k)
                  have ewk : IntKind.u64.wrap (k : Int) = (k : Int) := by rw [IntKind.wrap_u64]; omega
                  have em1 : IntKind.i64.wrap (-1000 * (i : Int)) = -1000 * (i : Int) := by rw [IntKind.wrap_i64]; omega
                  have em2 : IntKind.i64.wrap (-1000 * (i : Int) - (k : Int)) = -1000 * (i : Int) - (k : Int) := by rw [IntKind.wrap_i64]; omega
                  have em3 : IntKind.i64.wrap (-1000 * (i : Int) - (k : Int) - 1) = -1000 * (i : Int) - (k : Int) - 1 := by rw [IntKind.wrap_i64]; omega
                  have en1 : wrap64 (-1000 * (i : Int)) = -1000 * (i : Int) := by unfold wrap64; omega
                  have en2 : wrap64 (-1000 * (i : Int) - (k : Int)) = -1000 * (i : Int) - (k : Int) := by unfold wrap64; omega
                  have en3 : wrap64 (-1000 * (i : Int) - (k : Int) - 1) = -1000 * (i : Int) - (k : Int) - 1 := by unfold wrap64; omega
                  have HP := hide (And.intro (by have h := own_put (hq) (k) (.int .i64 (-1000 * (i : Int) - (k : Int) - 1)) (by (try simp only [List.length_set]); rw [hpl]; omega); rw [part_step1 (F := fI i) (n := n) (fun _ => rfl) HV.out.2.2.2.2 hlk rfl] at h; exact h) ((hQ.out.2).andSet ⟨vg, k, none⟩ (.int .i64 (-1000 * (i : Int) - (k : Int) - 1)) (.inr rfl)))
                  clear hq hpl evc hu0
                  go_wp2
                  exact ⟨⟨k + 1, by go_num, by omega, hide ⟨HP.out.1, HP.out.2⟩⟩, by simp [intOf]; omega⟩
                · have hlkI : ¬ (k : Int) < (n : Int) := by omega
                  obtain rfl : n = k := by omega
                  have HE2 : Hid (En wr B 3 1 il kn (cutX fI kn Z (i + 1)) ∧ Kp (Eb il) wB wr) := by
                    obtain ⟨h1, h2⟩ := hQ.out
                    obtain ⟨hv, hn, hrow, _, hxl⟩ := HV.out
                    rw [part_full hxl] at h1
                    exact hide ⟨hE.out.1.turn hv hn h2 (by rw [cutX_succ hn]; exact h1) (fun j hj => cutX_oth hj), kp_eb hE.out.2 hv h2⟩
                  go_wp2
                  exact ⟨⟨i + 1, by go_num, by omega, HE2⟩, by simp [intOf]; omega⟩
            · have hltI : ¬ (i : Int) < (IN : Int) := by omega
              have HF3 : Hid (En wr B 3 1 il kn (fun j => mkl (fI j) (kn.getD j 0)) ∧ Kp (Eb il) wB wr) := hide ⟨hE.out.1.full (by have := HN.out; omega), hE.out.2⟩
              have HB3 := hide hB1
              clear hE hB1 hlt
              go_wp2
              go_end0
              have k1 := HF1.out.2
              have k2 := HF2.out.2
              have k3 := HF3.out.2
              have hS1 := HS1.out
              have hI2 := HI2.out
              have kall : Kp (fun g => Eb ml g ∨ Eb sl g ∨ Eb il g) w wr := ((k1.mono (fun _ _ e => .inl e)).trans k2 (fun _ _ e => .inr (.inl e))).trans k3 (fun _ _ e => .inr (.inr e))
              exact ⟨rfl, by rw [HN.out.1, HN.out.2.1, HN.out.2.2]; exact HB3.out, (HF1.out.1.keep k2 (HF1.out.1.apart hS1 (by decide))).keep k3 ((HF1.out.1.keep k2 (HF1.out.1.apart hS1 (by decide))).apart hI2 (by decide)), HF2.out.1.keep k3 (HF2.out.1.apart hI2 (by decide)), HF3.out.1, kall⟩
end Go.Proofs.YtbifmcadllilhaaGreat.Rg
