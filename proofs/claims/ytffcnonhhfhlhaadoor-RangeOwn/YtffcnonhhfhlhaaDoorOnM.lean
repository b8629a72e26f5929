import Derived.Test.YtffcnonhhfhlhaaDoorOnI
import Derived.Test.YtffcnonhhfhlhaaDoorOnK
import Derived.BigQuiet
namespace Go.Proofs.YtffcnonhhfhlhaaDoor.Rg
open Go.RowKit Go.Shelf Go.Sort
open Go.Proofs.YtffcnonhhfhlhaaDoor.It
set_option linter.unusedVariables false
theorem Tb.zero {B b : Nat} {w : World} {lim : Int} {v : Value} {L : List Sg} (h : Tb B w b lim v L) : Tb 0 w b lim v L := ⟨h.blk, Nat.zero_le _, own_base h.own (Nat.zero_le _), h.tab, h.len, h.lim1⟩
theorem getD_old {α : Type} {l : List α} {x d : α} {i : Nat} (h : i < l.length) : (l ++ [x]).getD i d = l.getD i d := by
  rw [List.getD_eq_getElem?_getD, List.getD_eq_getElem?_getD, List.getElem?_append_left h]
theorem getD_new {α : Type} {l : List α} {x d : α} {i : Nat} (h : i = l.length) : (l ++ [x]).getD i d = x := by
  subst h
  rw [List.getD_eq_getElem?_getD, List.getElem?_append_right (Nat.le_refl _)]
  simp
theorem snoc_at {α : Type} {l : List α} {x y : α} {i : Nat} (h : (l ++ [x])[i]? = some y) : (i < l.length ∧ l[i]? = some y) ∨ (i = l.length ∧ y = x) := by
  rw [List.getElem?_append] at h
  split at h
  · exact .inl ⟨by assumption, h⟩
  · rw [List.getElem?_singleton] at h
    split at h
    · cases h; exact .inr ⟨by omega, rfl⟩
    · cases h
/-- a list more -/
theorem En.push {w w' : World} {B t e n : Nat} {vs : List Value} {ns : List Nat} {Xs : List (List Value)} {v : Value} {x : List Value} (h : En w B t e vs ns (fun j => Xs.getD j [])) (hx : Xs.length = vs.length) {T : Nat → Prop} (k : Kp T w w') (hT : ∀ g, Eb vs g → ¬ T g) (hB : B ≤ w.heap.size) (hr : w'.ownsRow w.heap.size t e v n x) : En w' B t e (vs ++ [v]) (ns ++ [n]) (fun j => (Xs ++ [x]).getD j []) := by
  have hl := h.len
  have hlow : ∀ (j : Nat) u g, vs[j]? = some u → u.ownBlock = some g → g < w.heap.size := fun j u g hu hg => by
    have hj := (List.getElem?_eq_some_iff.1 hu).1
    exact own_lt (h.row j u _ hu (List.getElem?_eq_getElem (by rw [hl]; exact hj))) hg
  refine ⟨by rw [List.length_append, List.length_append, hl]; rfl, fun i u m hu hm => ?_, fun i j ui uj g hi hj gi gj => ?_⟩
  · rcases snoc_at hu with ⟨l1, hu⟩ | ⟨l1, rfl⟩
    · rcases snoc_at hm with ⟨_, hm⟩ | ⟨l2, _⟩
      · rw [getD_old (by omega)]
        have hrow := h.row i u m hu hm
        exact own_keep hrow (fun g e => k.block g (own_lt hrow e) (hT g ⟨u, List.mem_of_getElem? hu, e.symm⟩))
      · omega
    · rcases snoc_at hm with ⟨l2, _⟩ | ⟨_, rfl⟩
      · omega
      · rw [getD_new (by omega)]
        exact own_base hr hB
  · rcases snoc_at hi with ⟨_, hi'⟩ | ⟨l1, e1⟩
    · rcases snoc_at hj with ⟨_, hj'⟩ | ⟨l2, e2⟩
      · exact h.dis i j ui uj g hi' hj' gi gj
      · rw [e2] at gj
        have := hlow i ui g hi' gi
        have := (hr.lt g gj).1
        omega
    · rw [e1] at gi
      rcases snoc_at hj with ⟨_, hj'⟩ | ⟨l2, e2⟩
      · have := hlow j uj g hj' gj
        have := (hr.lt g gi).1
        omega
      · omega
theorem En.nil {w : World} {B t e : Nat} : En w B t e [] [] (fun j => ([] : List (List Value)).getD j []) := ⟨rfl, fun i v n h => by simp at h, fun i j vi vj g h => by simp at h⟩
theorem En.nu {w w' : World} {B t e : Nat} {vs : List Value} {ns : List Nat} {X : Nat → List Value} (h : En w B t e vs ns X) (k : Kp Nu w w') : En w' B t e vs ns X := h.keep k (fun _ _ e => e)
/-- the book and all that it has been told -/
structure Aq (W0 V : World) (b : Nat) (ml sl il : List Value) (mn sn cn : List Nat) (Xs Ys Zs : List (List Value)) : Prop where
  bk : ∃ mv sv iv, Bk V W0.heap.size b mv sv iv ml sl il
  low : W0.heap.size ≤ b
  m : En V W0.heap.size 26 3 ml mn (fun j => Xs.getD j [])
  s : En V W0.heap.size 105 3 sl sn (fun j => Ys.getD j [])
  c : En V W0.heap.size 112 4 il cn (fun j => Zs.getD j [])
  xl : Xs.length = ml.length
  yl : Ys.length = sl.length
  zl : Zs.length = il.length
  kp : Kp Nu W0 V
theorem Aq.nu {W0 V V' : World} {b : Nat} {ml sl il : List Value} {mn sn cn : List Nat} {Xs Ys Zs : List (List Value)} (h : Aq W0 V b ml sl il mn sn cn Xs Ys Zs) (k : Kp Nu V V') : Aq W0 V' b ml sl il mn sn cn Xs Ys Zs := by
  obtain ⟨mv, sv, iv, hb⟩ := h.bk
  exact ⟨⟨mv, sv, iv, hb.nu k⟩, h.low, h.m.nu k, h.s.nu k, h.c.nu k, h.xl, h.yl, h.zl, h.kp.andNu k⟩
theorem bc_low {w : World} {B b : Nat} {mv sv iv : Value} {ml sl il : List Value} (h : Bk w B b mv sv iv ml sl il) (hb : B ≤ b) {g : Nat} (hg : Bc b mv sv iv g) : B ≤ g := by
  rcases hg with e | e | e | e
  · omega
  · exact (h.m.lt g e.symm).1
  · exact (h.s.lt g e.symm).1
  · exact (h.i.lt g e.symm).1
/-- one asking more -/
theorem ask_any {W0 V : World} {b b1 b2 : Nat} {l1 l2 : Int} {v1 v2 : Value} {ml sl il : List Value} {mn sn cn : List Nat} {Xs Ys Zs : List (List Value)} {A E : List Sg} (h : Aq W0 V b ml sl il mn sn cn Xs Ys Zs) (hml : ml.length ≤ 100) (hsl : sl.length ≤ 100) (hil : il.length ≤ 100) (t1 : Tb 0 W0 b1 l1 v1 A) (t2 : Tb 0 W0 b2 l2 v2 E) :
    Calls Tryd.prog 34 #[.pointer (some ⟨b, 0, none⟩), .pointer (some ⟨b1, 0, none⟩), .pointer (some ⟨b2, 0, none⟩)] V fun e V' => e = .returned (.bool true) ∧ ∃ m s c, Aq W0 V' b (ml ++ [m]) (sl ++ [s]) (il ++ [c]) (mn ++ [A.length]) (sn ++ [(hos A 16).length]) (cn ++ [(dst E A).2.length]) (Xs ++ [cells A]) (Ys ++ [cellsH A (hos A 16)]) (Zs ++ [cellsC (dst E A).2]) := by
  obtain ⟨mv, sv, iv, hb⟩ := h.bk
  have hsz := h.kp.size
  refine (ask34 hb hsz hml hsl hil (t1.nu h.kp) (t2.nu h.kp)).mono ?_
  rintro e V' ⟨rfl, mv', sv', iv', m, s, c, ss, hb', hA, hk⟩
  have hs : V'.ownsRow V.heap.size 105 3 s (hos A 16).length (cellsH A (hos A 16)) := by
    have h1 := hA.s
    have e1 := srt_hos hA.kh t1.tab.hs
    have e2 := h1.1
    rw [e1] at h1
    rw [cellsH_len, e1] at e2
    have e3 : ss.length = (hos A 16).length := by omega
    rw [e3] at h1
    exact h1
  refine ⟨rfl, m, s, c, ⟨mv', sv', iv', hb'⟩, h.low, ?_, ?_, ?_, ?_, ?_, ?_, ?_⟩
  · exact h.m.push h.xl hk (fun g hg e => hb.apart h.m (by decide) (by decide) (by decide) (by decide) g e hg) hsz hA.m
  · exact h.s.push h.yl hk (fun g hg e => hb.apart h.s (by decide) (by decide) (by decide) (by decide) g e hg) hsz hs
  · exact h.c.push h.zl hk (fun g hg e => hb.apart h.c (by decide) (by decide) (by decide) (by decide) g e hg) hsz hA.c
  · rw [List.length_append, List.length_append, h.xl]; rfl
  · rw [List.length_append, List.length_append, h.yl]; rfl
  · rw [List.length_append, List.length_append, h.zl]; rfl
  · exact h.kp.trans hk (fun g hg e => absurd (bc_low hb h.low e) (by omega))
/-- two askings of one table are alike -/
theorem alike_any {W0 V : World} {b i k N : Nat} {ml sl il : List Value} {mn sn cn : List Nat} {Xs Ys Zs : List (List Value)} {A E : List Sg} (h : Aq W0 V b ml sl il mn sn cn Xs Ys Zs) (hA : Tab A) (hAl : A.length ≤ 8192) (hEl : E.length ≤ 8192) (em : ml.length = N) (es : sl.length = N) (ei : il.length = N) (n2 : N ≤ 100) (hi : i < N) (hk : k < N)
    (m1 : mn[i]? = some A.length) (m2 : mn[k]? = some A.length) (x1 : Xs[i]? = some (cells A)) (x2 : Xs[k]? = some (cells A))
    (s1 : sn[i]? = some (hos A 16).length) (s2 : sn[k]? = some (hos A 16).length) (y1 : Ys[i]? = some (cellsH A (hos A 16))) (y2 : Ys[k]? = some (cellsH A (hos A 16)))
    (c1 : cn[i]? = some (dst E A).2.length) (c2 : cn[k]? = some (dst E A).2.length) (z1 : Zs[i]? = some (cellsC (dst E A).2)) (z2 : Zs[k]? = some (cellsC (dst E A).2)) :
    Calls Tryd.prog 35 #[.pointer (some ⟨b, 0, none⟩), .int .i64 (i : Int), .int .i64 (k : Int)] V fun e V' => e = .returned (.bool true) ∧ Kp Nu V V' := by
  obtain ⟨mv, sv, iv, hb⟩ := h.bk
  have gd : ∀ {L : List (List Value)} {j : Nat} {x : List Value}, L[j]? = some x → L.getD j [] = x := fun e => by rw [List.getD_eq_getElem?_getD, e]; rfl
  have at_ : ∀ {l : List Value} {j : Nat}, j < l.length → l[j]? = some (l.getD j default) := fun hj => by rw [List.getD_eq_getElem?_getD, List.getElem?_eq_getElem hj]; rfl
  have hmi := at_ (l := ml) (j := i) (by omega)
  have hmk := at_ (l := ml) (j := k) (by omega)
  have hsi := at_ (l := sl) (j := i) (by omega)
  have hsk := at_ (l := sl) (j := k) (by omega)
  have hci := at_ (l := il) (j := i) (by omega)
  have hck := at_ (l := il) (j := k) (by omega)
  have rm1 := h.m.row i _ _ hmi m1
  have rm2 := h.m.row k _ _ hmk m2
  have rs1 := h.s.row i _ _ hsi s1
  have rs2 := h.s.row k _ _ hsk s2
  have rc1 := h.c.row i _ _ hci c1
  have rc2 := h.c.row k _ _ hck c2
  simp only [gd x1] at rm1
  simp only [gd x2] at rm2
  simp only [gd y1] at rs1
  simp only [gd y2] at rs2
  simp only [gd z1] at rc1
  simp only [gd z2] at rc2
  have hd := dst_len E _ A rfl
  exact alike35 V W0.heap.size b mv sv iv ml sl il N i k hb em es ei hi hk n2 A A (hos A 16) (dst E A).2 _ _ _ _ _ _ _ _ hmi hmk hsi hsk hci hck (rs_of_own rm1 hA.ne) (rs_of_own rm2 hA.ne) rs1 rs2 rc1 rc2 hAl (by have := hos_len A 16; omega) (by omega)
end Go.Proofs.YtffcnonhhfhlhaaDoor.Rg
namespace Go.Proofs.YtffcnonhhfhlhaaDoor.Rg
open Go.RowKit Go.Shelf Go.Sort
open Go.Proofs.YtffcnonhhfhlhaaDoor.It
set_option linter.unusedVariables false
theorem own_nilS {w : World} {B t e : Nat} {v : Value} (h : w.ownsRow B t e v 0 []) : ∃ a c, v = .slice a 0 c := by
  obtain ⟨a, c, e⟩ := own_slice h
  exact ⟨a, c, e⟩
theorem Rs.slice {w : World} {v : Value} {L : List Sg} (h : Rs w v L) : ∃ a c, v = .slice a L.length c := by
  obtain ⟨r, off, cap, e, _⟩ := h
  exact ⟨_, _, e⟩
/-- a block that is touched by nobody -/
theorem blk_nu {w w' : World} {g : Nat} {o : Obj} (h : w.heap[g]? = some o) (k : Kp Nu w w') : w'.heap[g]? = some o := (k.block g (by rcases Nat.lt_or_ge g w.heap.size with h1 | h1; exact h1; rw [Array.getElem?_eq_none h1] at h; cases h) (fun e => e)).trans h
set_option maxRecDepth 100000 in
set_option maxHeartbeats 8000000 in
theorem own_walk (w : World) (u : Value) (M : List Sg) (hM : Sgs w u M) (hlen : (M.length : Int) ≤ 5864062014634) (lim : Int) (s : Sp) (fs : SpB s) (hp : PowB w.heap.size w) :
    Calls Tryd.prog 8 #[u, .int .i64 lim, .agg #[.int .i64 s.kind, .int .u64 s.lo, .int .u64 s.hi, .int .u8 s.h]] w fun e w' => e = .returned (.bool true) ∧ Kp Nu w w' := by
  have mixed : Tryd.prog.follows .mixedOrders = true := by kernel_rfl
  have k0 := Kp.alloc w (.cells #[.int .i64 s.kind, .int .u64 s.lo, .int .u64 s.hi, .int .u8 s.h] 36) Nu
  have x0 := heap_alloc_new w (.cells #[.int .i64 s.kind, .int .u64 s.lo, .int .u64 s.hi, .int .u8 s.h] 36)
  obtain ⟨w0, ew0⟩ : ∃ w0, w.alloc (.cells #[.int .i64 s.kind, .int .u64 s.lo, .int .u64 s.hi, .int .u8 s.h] 36) = w0 := ⟨_, rfl⟩
  rw [ew0] at k0 x0
  have LD := loaded_any w0 u M (hM.nu k0) hlen lim
  obtain ⟨ad, cap, hu⟩ := hM.slice
  have HP := hide (And.intro hp fs)
  generalize M.length = NM at hu
  subst hu
  have H0 := hide (And.intro x0 k0)
  clear hM hlen hp fs x0 k0
  go_enter Tryd.func8, Tryd.ntmps8
  go_wp2_with fail
  refine LD.mono ?_; rintro e w1 ⟨p, L0, v, rfl, ⟨va, vn, vc, rfl⟩, hcase, k1⟩
  have k2 := Kp.alloc w1 (.cells #[.int .i64 L0, .slice va vn vc] 29) Nu
  have x2 := heap_alloc_new w1 (.cells #[.int .i64 L0, .slice va vn vc] 29)
  rcases hcase with rfl | ⟨b, vt, B, hB, rfl, hT, hL0, hown, hlt⟩
  · have HK := hide ((H0.out.2.andNu k1).andNu k2)
    clear LD k1 k2 x2
    go_wp2
    go_ret
    exact ⟨rfl, HK.out⟩
  obtain rfl : lim = L0 := hL0.symm
  obtain ⟨w2, ew2⟩ : ∃ w2, w1.alloc (.cells #[.int .i64 lim, .slice va vn vc] 29) = w2 := ⟨_, rfl⟩
  rw [ew2] at k2 x2
  obtain ⟨L, eL⟩ : ∃ L, lays [] M = L := ⟨_, rfl⟩
  rw [eL] at hT hown
  obtain ⟨br, ebr⟩ : ∃ br, w1.heap.size = br := ⟨_, rfl⟩
  obtain ⟨bs, ebs⟩ : ∃ bs, w.heap.size = bs := ⟨_, rfl⟩
  rw [ebr] at x2
  have hT2 := hT.nu k2
  have hR2 : Rt w2 (.slice va vn vc) L := (Rt.of_own hown hT.tab.ne).nu k2
  have hb2 : b < w2.heap.size := blk_lt hT2.blk
  have x02 : w2.heap[bs]? = some (.cells #[.int .i64 s.kind, .int .u64 s.lo, .int .u64 s.hi, .int .u8 s.h] 36 (0, 0)) := by
    rw [← ebs]; exact blk_nu (blk_nu H0.out.1 k1) k2
  have k02 : Kp Nu w w2 := (H0.out.2.andNu k1).andNu k2
  have hNL : L.length ≤ 8192 := by have := hT.len; have := hT.lim1; omega
  have H2 := hide (And.intro hT2 (And.intro hR2 (And.intro hb2 (And.intro x02 (And.intro k02 (And.intro x2 hNL))))))
  have CL := clone_any hT2
  clear LD k1 k2 x2 hT hown hlt hB eL hL0 hT2 hR2 hb2 x02 k02 hNL H0
  go_wp2_with fail
  refine CL.mono ?_; rintro e w3 ⟨b', v', rfl, t3, k3⟩
  have H3 := hide (And.intro t3 k3)
  obtain ⟨q0, q1, q2, q3⟩ := cell4' (blk_nu H2.out.2.2.2.1 k3)
  have AS := assign_any t3 s HP.out.2 k3.size
  clear CL t3 k3
  go_wp2_with fail
  try rw [ebs]
  refine AS.mono ?_; rintro e w4 ⟨rfl, v4, t4, k4⟩
  obtain ⟨E, eE⟩ : ∃ E, stp L lim s = E := ⟨_, rfl⟩
  obtain ⟨c0, ec0⟩ : ∃ c, cod L lim s = c := ⟨_, rfl⟩
  have hbb : b ≠ b' := by have := H2.out.2.2.1; have := H3.out.1.low; omega
  have hty := H3.out.1.blk
  have T4 : Tb B w4 b lim vt L := (H2.out.1.nu H3.out.2).othr k4 hty hbb (by decide)
  have R4 : Rt w4 (.slice va vn vc) L := (H2.out.2.1.nu H3.out.2).keep k4 (fun g c hc e => by
    have e : g = b' := e
    rw [e, hty] at hc; cases hc)
  have bk4 : ∀ {g : Nat} {c : Array Value} {t : TypeId}, w2.heap[g]? = some (.cells c t (0, 0)) → w4.heap[g]? = some (.cells c t (0, 0)) := fun {g c t} hg => by
    have h3 := blk_nu hg H3.out.2
    refine (k4.block g (blk_lt h3) (fun e => ?_)).trans h3
    have e : g = b' := e
    have h1 := blk_lt hg
    have h2 := H3.out.1.low
    omega
  have x4 := bk4 H2.out.2.2.2.1
  have y4 := bk4 H2.out.2.2.2.2.2.1
  have K4 : Kp Nu w w4 := (H2.out.2.2.2.2.1.andNu H3.out.2).trans k4 (fun g hg e => by
    have e : g = b' := e
    have h1 := H2.out.2.2.2.2.1.size
    have h2 := H3.out.1.low
    omega)
  rw [eE] at t4
  have RA := refAssign_any R4.rs T4.tab T4.len T4.lim1 s HP.out.2
  rw [eE, ec0] at RA
  rw [ec0]
  have hEL : E.length ≤ 8192 := by have := t4.len; have := t4.lim1; omega
  have H4 := hide (And.intro t4 (And.intro T4 (And.intro R4 (And.intro y4 (And.intro K4 hEL)))))
  clear q0 q1 q2 q3
  obtain ⟨q0, q1, q2, q3⟩ := cell4' x4
  obtain ⟨p0, p1⟩ := cell2' y4
  clear AS t4 k4 hbb hty T4 R4 bk4 x4 y4 K4 eE ec0 hEL
  go_wp2_with fail
  try rw [ebr]
  refine RA.mono ?_; rintro e w5 ⟨u', rfl, r5, or5, k5⟩
  have rt5 : Rt w5 u' E := rt_assign H4.out.2.2.1 k5 r5 or5 (H4.out.1.tab.ne)
  obtain ⟨ua, uc, eu⟩ := r5.slice
  obtain ⟨EN, eEN⟩ : ∃ n, E.length = n := ⟨_, rfl⟩
  rw [eEN] at eu
  subst eu
  have k6 := Kp.alloc w5 (.cells #[.int .i64 lim, .slice ua EN uc] 29) Nu
  have x6 := heap_alloc_new w5 (.cells #[.int .i64 lim, .slice ua EN uc] 29)
  obtain ⟨w6, ew6⟩ : ∃ w6, w5.alloc (.cells #[.int .i64 lim, .slice ua EN uc] 29) = w6 := ⟨_, rfl⟩
  rw [ew6] at k6 x6
  obtain ⟨bq, ebq⟩ : ∃ bq, w5.heap.size = bq := ⟨_, rfl⟩
  rw [ebq] at x6
  have k46 := k5.andNu k6
  have H6 := hide (And.intro (H4.out.1.nu k46) (And.intro (H4.out.2.1.nu k46) (And.intro (H4.out.2.2.1.nu k46) (And.intro (rt5.nu k6) (And.intro (blk_nu H4.out.2.2.2.1 k46) (And.intro x6 (And.intro (H4.out.2.2.2.2.1.andNu k46) H4.out.2.2.2.2.2)))))))
  have hne0 : (c0 != c0) = false := by simp
  have NU := fun x W => num_any x W
  clear RA r5 or5 k5 rt5 eEN k6 x6 k46 p0 p1 q0 q1 q2 q3
  have DF := diff_any H6.out.2.1 H6.out.2.1
  rw [dst_self H6.out.2.1.tab] at DF
  go_wp2_with (first | (go_at_call 29; refine (NU _ _).mono ?_; rintro e w' ⟨rfl, hw'⟩; obtain rfl := hw'.symm))
  refine DF.mono ?_; rintro e w7 ⟨un, rfl, hn7, k7⟩
  obtain ⟨na, nc, en⟩ := own_nilS (B := w6.heap.size) (t := 112) (e := 4) (v := un) (w := w7) (by simpa [cellsC] using hn7)
  subst en
  have H7 := hide (And.intro (H6.out.1.nu k7).zero (And.intro (H6.out.2.1.nu k7).zero (And.intro (H6.out.2.2.1.nu k7) (And.intro (H6.out.2.2.2.1.nu k7) (And.intro (blk_nu H6.out.2.2.2.2.1 k7) (And.intro (blk_nu H6.out.2.2.2.2.2.1 k7) (And.intro (H6.out.2.2.2.2.2.2.1.andNu k7) H6.out.2.2.2.2.2.2.2)))))))
  clear DF hn7 k7 H6
  have k8 := Kp.alloc w7 (.cells #[.slice none 0 0, .slice none 0 0, .slice none 0 0] 78) Nu
  have x8 := heap_alloc_new w7 (.cells #[.slice none 0 0, .slice none 0 0, .slice none 0 0] 78)
  obtain ⟨w8, ew8⟩ : ∃ w8, w7.alloc (.cells #[.slice none 0 0, .slice none 0 0, .slice none 0 0] 78) = w8 := ⟨_, rfl⟩
  rw [ew8] at k8 x8
  have A0 : Aq w7 w8 w7.heap.size [] [] [] [] [] [] [] [] [] := ⟨⟨_, _, _, x8, World.ownsRow_nil _ _ _ _, World.ownsRow_nil _ _ _ _, World.ownsRow_nil _ _ _ _⟩, Nat.le_refl _, En.nil, En.nil, En.nil, rfl, rfl, rfl, k8⟩
  obtain ⟨bb, ebb⟩ : ∃ bb, w7.heap.size = bb := ⟨_, rfl⟩
  rw [ebb] at A0
  have HA0 := hide A0
  clear k8 x8 A0
  have AK := ask_any HA0.out (by simp) (by simp) (by simp) H7.out.2.1 H7.out.1
  go_wp2_with (first | (go_at_call 29; refine (NU _ _).mono ?_; rintro e w' ⟨rfl, hw'⟩; obtain rfl := hw'.symm))
  clear NU
  try rw [ebb]
  refine AK.mono ?_; rintro e w9 ⟨rfl, m0, s0, z0, hA⟩
  have HA1 : Hid (Aq w7 w9 bb [m0] [s0] [z0] [L.length] [(hos L 16).length] [(dst E L).2.length] [cells L] [cellsH L (hos L 16)] [cellsC (dst E L).2]) := hide hA
  clear AK hA HA0
  have AK := ask_any HA1.out (by simp) (by simp) (by simp) H7.out.2.1 H7.out.1
  go_wp2_with fail
  try rw [ebb]
  refine AK.mono ?_; rintro e w10 ⟨rfl, m1, s1, z1, hA⟩
  have HA2 : Hid (Aq w7 w10 bb [m0, m1] [s0, s1] [z0, z1] [L.length, L.length] [(hos L 16).length, (hos L 16).length] [(dst E L).2.length, (dst E L).2.length] [cells L, cells L] [cellsH L (hos L 16), cellsH L (hos L 16)] [cellsC (dst E L).2, cellsC (dst E L).2]) := hide hA
  clear AK hA HA1
  have AK := ask_any HA2.out (by simp) (by simp) (by simp) H7.out.1 H7.out.2.1
  go_wp2_with fail
  try rw [ebb]
  refine AK.mono ?_; rintro e w11 ⟨rfl, m2, s2, z2, hA⟩
  have HA3 : Hid (Aq w7 w11 bb [m0, m1, m2] [s0, s1, s2] [z0, z1, z2] [L.length, L.length, E.length] [(hos L 16).length, (hos L 16).length, (hos E 16).length] [(dst E L).2.length, (dst E L).2.length, (dst L E).2.length] [cells L, cells L, cells E] [cellsH L (hos L 16), cellsH L (hos L 16), cellsH E (hos E 16)] [cellsC (dst E L).2, cellsC (dst E L).2, cellsC (dst L E).2]) := hide hA
  clear AK hA HA2
  have AK := ask_any HA3.out (by simp) (by simp) (by simp) H7.out.1 H7.out.2.1
  go_wp2_with fail
  try rw [ebb]
  refine AK.mono ?_; rintro e w12 ⟨rfl, m3, s3, z3, hA⟩
  have HA4 : Hid (Aq w7 w12 bb [m0, m1, m2, m3] [s0, s1, s2, s3] [z0, z1, z2, z3] [L.length, L.length, E.length, E.length] [(hos L 16).length, (hos L 16).length, (hos E 16).length, (hos E 16).length] [(dst E L).2.length, (dst E L).2.length, (dst L E).2.length, (dst L E).2.length] [cells L, cells L, cells E, cells E] [cellsH L (hos L 16), cellsH L (hos L 16), cellsH E (hos E 16), cellsH E (hos E 16)] [cellsC (dst E L).2, cellsC (dst E L).2, cellsC (dst L E).2, cellsC (dst L E).2]) := hide hA
  clear AK hA HA3
  have AK := ask_any HA4.out (by simp) (by simp) (by simp) H7.out.2.1 H7.out.1
  go_wp2_with fail
  try rw [ebb]
  refine AK.mono ?_; rintro e w13 ⟨rfl, m4, s4, z4, hA⟩
  have HA5 : Hid (Aq w7 w13 bb [m0, m1, m2, m3, m4] [s0, s1, s2, s3, s4] [z0, z1, z2, z3, z4] [L.length, L.length, E.length, E.length, L.length] [(hos L 16).length, (hos L 16).length, (hos E 16).length, (hos E 16).length, (hos L 16).length] [(dst E L).2.length, (dst E L).2.length, (dst L E).2.length, (dst L E).2.length, (dst E L).2.length] [cells L, cells L, cells E, cells E, cells L] [cellsH L (hos L 16), cellsH L (hos L 16), cellsH E (hos E 16), cellsH E (hos E 16), cellsH L (hos L 16)] [cellsC (dst E L).2, cellsC (dst E L).2, cellsC (dst L E).2, cellsC (dst L E).2, cellsC (dst E L).2]) := hide hA
  clear AK hA HA4
  have AK := ask_any HA5.out (by simp) (by simp) (by simp) H7.out.1 H7.out.2.1
  go_wp2_with fail
  try rw [ebb]
  refine AK.mono ?_; rintro e w14 ⟨rfl, m5, s5, z5, hA⟩
  have HA6 : Hid (Aq w7 w14 bb [m0, m1, m2, m3, m4, m5] [s0, s1, s2, s3, s4, s5] [z0, z1, z2, z3, z4, z5] [L.length, L.length, E.length, E.length, L.length, E.length] [(hos L 16).length, (hos L 16).length, (hos E 16).length, (hos E 16).length, (hos L 16).length, (hos E 16).length] [(dst E L).2.length, (dst E L).2.length, (dst L E).2.length, (dst L E).2.length, (dst E L).2.length, (dst L E).2.length] [cells L, cells L, cells E, cells E, cells L, cells E] [cellsH L (hos L 16), cellsH L (hos L 16), cellsH E (hos E 16), cellsH E (hos E 16), cellsH L (hos L 16), cellsH E (hos E 16)] [cellsC (dst E L).2, cellsC (dst E L).2, cellsC (dst L E).2, cellsC (dst L E).2, cellsC (dst E L).2, cellsC (dst L E).2]) := hide hA
  clear AK hA HA5
  have AL := alike_any (i := 0) (k := 1) (N := 6) (A := L) (E := E) HA6.out H7.out.2.1.tab H2.out.2.2.2.2.2.2 H7.out.2.2.2.2.2.2.2 rfl rfl rfl (by decide) (by decide) (by decide) rfl rfl rfl rfl rfl rfl rfl rfl rfl rfl rfl rfl
  go_wp2_with fail
  try rw [ebb]
  refine AL.mono ?_; rintro e w15 ⟨rfl, kk⟩
  have HA7 := hide (HA6.out.nu kk)
  clear AL kk HA6
  have AL := alike_any (i := 0) (k := 4) (N := 6) (A := L) (E := E) HA7.out H7.out.2.1.tab H2.out.2.2.2.2.2.2 H7.out.2.2.2.2.2.2.2 rfl rfl rfl (by decide) (by decide) (by decide) rfl rfl rfl rfl rfl rfl rfl rfl rfl rfl rfl rfl
  go_wp2_with fail
  try rw [ebb]
  refine AL.mono ?_; rintro e w16 ⟨rfl, kk⟩
  have HA8 := hide (HA7.out.nu kk)
  clear AL kk HA7
  have AL := alike_any (i := 2) (k := 3) (N := 6) (A := E) (E := L) HA8.out H7.out.1.tab H7.out.2.2.2.2.2.2.2 H2.out.2.2.2.2.2.2 rfl rfl rfl (by decide) (by decide) (by decide) rfl rfl rfl rfl rfl rfl rfl rfl rfl rfl rfl rfl
  go_wp2_with fail
  try rw [ebb]
  refine AL.mono ?_; rintro e w17 ⟨rfl, kk⟩
  have HA9 := hide (HA8.out.nu kk)
  clear AL kk HA8
  have AL := alike_any (i := 2) (k := 5) (N := 6) (A := E) (E := L) HA9.out H7.out.1.tab H7.out.2.2.2.2.2.2.2 H2.out.2.2.2.2.2.2 rfl rfl rfl (by decide) (by decide) (by decide) rfl rfl rfl rfl rfl rfl rfl rfl rfl rfl rfl rfl
  go_wp2_with fail
  try rw [ebb]
  refine AL.mono ?_; rintro e w18 ⟨rfl, kk⟩
  have HA10 := hide (HA9.out.nu kk)
  clear AL kk HA9
  obtain ⟨mv, sv, iv, hbk⟩ := HA10.out.bk
  obtain ⟨mg, mc, emv⟩ := own_blk hbk.m (by simp)
  have f0 : w18.cell? ⟨bb, 0, none⟩ = some (.slice (some ⟨mg, 0, none⟩) 6 mc) := by rw [hbk.c0, emv]; rfl
  have hrow : w18.ownsRow w7.heap.size 22 1 (.slice (some ⟨mg, 0, none⟩) 6 mc) 6 [m0, m1, m2, m3, m4, m5] := by have h := hbk.m; rw [emv] at h; exact h
  have f1 : w18.cell? ⟨mg, 0, none⟩ = some m0 := own_cell hrow rfl
  have f2 : w18.cell? ⟨mg, 2, none⟩ = some m2 := own_cell hrow rfl
  have K18 := HA10.out.kp
  obtain ⟨p0, p1⟩ := cell2' (blk_nu H7.out.2.2.2.2.1 K18)
  obtain ⟨q0, q1⟩ := cell2' (blk_nu H7.out.2.2.2.2.2.1 K18)
  have rm0 : w18.ownsRow w7.heap.size 26 3 m0 L.length (cells L) := HA10.out.m.row 0 m0 L.length rfl rfl
  have rm2 : w18.ownsRow w7.heap.size 26 3 m2 E.length (cells E) := HA10.out.m.row 2 m2 E.length rfl rfl
  have SM1 : ∀ n, Calls Tryd.prog 11 #[m0, .slice va vn vc] (w18.drewN n) fun e w' => e = .returned (.bool true) ∧ ∃ q, w' = (w18.drewN n).drewN q := fun n => same_trueq _ m0 _ L ((rs_of_own rm0 H7.out.2.1.tab.ne).nu (kqn ⟨n, rfl⟩)) (((H7.out.2.2.1.nu K18).nu (kqn ⟨n, rfl⟩)).rs) H2.out.2.2.2.2.2.2
  have SM2 : ∀ n, Calls Tryd.prog 11 #[m2, .slice ua EN uc] (w18.drewN n) fun e w' => e = .returned (.bool true) ∧ ∃ q, w' = (w18.drewN n).drewN q := fun n => same_trueq _ m2 _ E ((rs_of_own rm2 H7.out.1.tab.ne).nu (kqn ⟨n, rfl⟩)) (((H7.out.2.2.2.1.nu K18).nu (kqn ⟨n, rfl⟩)).rs) H7.out.2.2.2.2.2.2.2
  obtain ⟨m0a, m0c, em0⟩ := own_slice rm0
  clear hbk emv hrow K18 rm0 rm2 em0
  go_wp2_with fail
  try rw [ebb]
  try rw [ebr]
  try rw [ebq]
  go_quiet (first | (go_at_call 11; first | (with_reducible exact Calls.quiet_of (SM1 _)) | (with_reducible exact Calls.quiet_of (SM2 _))))
  have kq : Kp Nu w18 (w18.drewN nq) := kqn ⟨nq, rfl⟩
  obtain ⟨w19, ew19⟩ : ∃ W, w18.drewN nq = W := ⟨_, rfl⟩
  rw [ew19] at kq ⊢
  have HB := hide (HA10.out.nu kq)
  clear f0 f1 f2 p0 p1 q0 q1 SM1 SM2 kq ew19 HA10
  obtain ⟨mv1, sv1, iv1, hbk⟩ := HB.out.bk
  obtain ⟨mg1, mc1, emv⟩ := own_blk hbk.m (by simp)
  have f0 : w19.cell? ⟨bb, 0, none⟩ = some (.slice (some ⟨mg1, 0, none⟩) 6 mc1) := by rw [hbk.c0, emv]; rfl
  have hrow : w19.ownsRow w7.heap.size 22 1 (.slice (some ⟨mg1, 0, none⟩) 6 mc1) 6 [m0, m1, m2, m3, m4, m5] := by have h := hbk.m; rw [emv] at h; exact h
  have f1 : w19.cell? ⟨mg1, 0, none⟩ = some m0 := own_cell hrow rfl
  have rm0 : w19.ownsRow w7.heap.size 26 3 m0 L.length (cells L) := HB.out.m.row 0 m0 L.length rfl rfl
  have PL := placed36 w19 w7.heap.size m0 L lim rm0 H7.out.2.1.tab H7.out.2.1.len H7.out.2.1.lim1
  clear hbk emv hrow rm0
  go_wp2_with fail
  refine PL.mono ?_; rintro e w20 ⟨rfl, k20⟩
  have HC := hide (HB.out.nu k20)
  clear PL k20 f0 f1 HB
  obtain ⟨mv2, sv2, iv2, hbk⟩ := HC.out.bk
  have hd1 := dst_len E _ L rfl
  have hd2 := dst_len L _ E rfl
  have hL8 := H2.out.2.2.2.2.2.2
  have hE8 := H7.out.2.2.2.2.2.2.2
  have ho1 := hos_len L 16
  have ho2 := hos_len E 16
  have AP := apart37 w20 w7.heap.size bb mv2 sv2 iv2 _ _ _ _ _ _ _ _ _ 6 hbk HC.out.m HC.out.s HC.out.c rfl rfl rfl (by decide) (by decide)
    (by intro n hn; simp only [List.mem_cons, List.not_mem_nil, or_false] at hn; rcases hn with rfl | rfl | rfl | rfl | rfl | rfl <;> omega)
    (by intro n hn; simp only [List.mem_cons, List.not_mem_nil, or_false] at hn; rcases hn with rfl | rfl | rfl | rfl | rfl | rfl <;> omega)
    (by intro n hn; simp only [List.mem_cons, List.not_mem_nil, or_false] at hn; rcases hn with rfl | rfl | rfl | rfl | rfl | rfl <;> omega) HC.out.kp.size
  clear hd1 hd2 hL8 hE8 ho1 ho2 hbk
  go_wp2_with fail
  try rw [ebb]
  refine AP.mono ?_; rintro e w21 ⟨rfl, k21⟩
  have K21 : Kp Nu w7 w21 := HC.out.kp.trans k21 (fun g hg e => by
    rcases e with e | e | e
    · have := (HC.out.m.obj e).1; omega
    · have := (HC.out.s.obj e).1; omega
    · have := (HC.out.c.obj e).1; omega)
  have H21 := hide K21
  clear AP k21 K21 HC
  have D21 : Hid (∀ W, Kp Nu w21 W → (W.cell? ⟨br, 0, none⟩ = some (.int .i64 lim) ∧ W.cell? ⟨br, 1, none⟩ = some (.slice va vn vc)) ∧ (W.cell? ⟨bq, 0, none⟩ = some (.int .i64 lim) ∧ W.cell? ⟨bq, 1, none⟩ = some (.slice ua EN uc))) := hide (fun W k => ⟨cell2' (blk_nu H7.out.2.2.2.2.1 (H21.out.andNu k)), cell2' (blk_nu H7.out.2.2.2.2.2.1 (H21.out.andNu k))⟩)
  have TT : Hid (∀ W, Kp Nu w21 W → PowB W.heap.size W ∧ Tb 0 W b lim vt L ∧ Tb 0 W b' lim v4 E ∧ Rs W (.slice va vn vc) L ∧ Rs W (.slice ua EN uc) E ∧ Kp Nu w W) := hide (fun W k => by
    have k7 := H21.out.andNu k
    have kw := H7.out.2.2.2.2.2.2.1.andNu k7
    exact ⟨HP.out.1.nu kw, H7.out.2.1.nu k7, H7.out.1.nu k7, (H7.out.2.2.1.nu k7).rs, (H7.out.2.2.2.1.nu k7).rs, kw⟩)
  obtain ⟨⟨p0, p1⟩, _⟩ := D21.out w21 (Kp.refl _ _)
  obtain ⟨g1, g2, g3, g4, g5, g6⟩ := TT.out w21 (Kp.refl _ _)
  have SA := stands_any g2 g1 _ g4
  clear g1 g2 g3 g4 g5 g6
  go_wp2_with fail
  refine SA.mono ?_; rintro e w22 ⟨rfl, k22⟩
  obtain ⟨g1, g2, g3, g4, g5, g6⟩ := TT.out w22 k22
  have SH := sharesW_any g2 _ g4
  clear p0 p1
  obtain ⟨⟨p0, p1⟩, _⟩ := D21.out w22 k22
  have H22 := hide k22
  clear SA k22 g1 g2 g3 g4 g5 g6
  go_wp2_with fail
  refine SH.mono ?_; rintro e w23 ⟨rfl, k23⟩
  have k3 := H22.out.andNu k23
  obtain ⟨g1, g2, g3, g4, g5, g6⟩ := TT.out w23 k3
  have SA := stands_any g3 g1 _ g5
  clear p0 p1
  obtain ⟨_, ⟨p0, p1⟩⟩ := D21.out w23 k3
  have H23 := hide k3
  clear SH k23 k3 g1 g2 g3 g4 g5 g6 H22
  go_wp2_with fail
  refine SA.mono ?_; rintro e w24 ⟨rfl, k24⟩
  have k3 := H23.out.andNu k24
  obtain ⟨g1, g2, g3, g4, g5, g6⟩ := TT.out w24 k3
  have SH := sharesW_any g3 _ g5
  clear p0 p1
  obtain ⟨_, ⟨p0, p1⟩⟩ := D21.out w24 k3
  have H24 := hide k3
  clear SA k24 k3 g1 g2 g3 g4 g5 g6 H23
  go_wp2_with fail
  refine SH.mono ?_; rintro e w25 ⟨rfl, k25⟩
  have k3 := H24.out.andNu k25
  obtain ⟨g1, g2, g3, g4, g5, g6⟩ := TT.out w25 k3
  have H25 := hide g6
  clear SH k25 k3 g1 g2 g3 g4 g5 g6 H24 p0 p1
  go_wp2
  go_ret
  exact ⟨rfl, H25.out⟩
end Go.Proofs.YtffcnonhhfhlhaaDoor.Rg
