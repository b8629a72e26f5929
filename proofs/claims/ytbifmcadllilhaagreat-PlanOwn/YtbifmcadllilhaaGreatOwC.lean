import Derived.Test.YtbifmcadllilhaaGreatOwM
import Derived.Test.YtbifmcadllilhaaGreatEvA
import Derived.Test.YtbifmcadllilhaaGreatPdE
import Derived.Test.YtbifmcadllilhaaGreatPmK
namespace Go.Proofs.YtbifmcadllilhaaGreat.Rg
open Go.RowKit Go.Shelf Go.Sort
open Go.Proofs.YtbifmcadllilhaaGreat.It
set_option linter.unusedVariables false
theorem info27l : (Tryz.prog.info? 27).map (fun i => (i.zero, i.size, i.bytes)) = some (some (.slice none 0 0), 1, 24) := by kernel_rfl
theorem info22l : (Tryz.prog.info? 22).map (fun i => (i.zero, i.size, i.bytes)) = some (some (.slice none 0 0), 1, 24) := by kernel_rfl
theorem info45l : (Tryz.prog.info? 45).map (fun i => (i.zero, i.size, i.bytes)) = some (some (.slice none 0 0), 1, 24) := by kernel_rfl
/-- the book in memory -/
structure Bk (w : World) (B b : Nat) (mv sv iv : Value) (ml sl il : List Value) : Prop where
  blk : w.heap[b]? = some (.cells #[mv, sv, iv] 60 (0, 0))
  m : w.ownsRow B 27 1 mv ml.length ml
  s : w.ownsRow B 22 1 sv sl.length sl
  i : w.ownsRow B 45 1 iv il.length il
/-- the book's own blocks -/
def Bc (b : Nat) (mv sv iv : Value) (g : Nat) : Prop := g = b ∨ some g = mv.ownBlock ∨ some g = sv.ownBlock ∨ some g = iv.ownBlock
theorem Bk.other {w : World} {B b : Nat} {mv sv iv : Value} {ml sl il : List Value} (h : Bk w B b mv sv iv ml sl il) {g : Nat} {c : Array Value} {t : TypeId} (hg : w.heap[g]? = some (.cells c t (0, 0))) (h1 : t ≠ 60) (h2 : t ≠ 27) (h3 : t ≠ 22) (h4 : t ≠ 45) : ¬ Bc b mv sv iv g := fun e => by
  rcases e with e | e | e | e
  · rw [e, h.blk] at hg; cases hg; exact h1 rfl
  · obtain ⟨cc, hcc⟩ := own_obj h.m e.symm
    rw [hcc] at hg; cases hg; exact h2 rfl
  · obtain ⟨cc, hcc⟩ := own_obj h.s e.symm
    rw [hcc] at hg; cases hg; exact h3 rfl
  · obtain ⟨cc, hcc⟩ := own_obj h.i e.symm
    rw [hcc] at hg; cases hg; exact h4 rfl
theorem Bk.keep {w w' : World} {B b : Nat} {mv sv iv : Value} {ml sl il : List Value} (h : Bk w B b mv sv iv ml sl il) {T : Nat → Prop} (k : Kp T w w') (hT : ∀ g, Bc b mv sv iv g → ¬ T g) : Bk w' B b mv sv iv ml sl il :=
  ⟨(k.block b (blk_lt h.blk) (hT b (.inl rfl))).trans h.blk, own_keep h.m (fun g e => k.block g (own_lt h.m e) (hT g (.inr (.inl e.symm)))), own_keep h.s (fun g e => k.block g (own_lt h.s e) (hT g (.inr (.inr (.inl e.symm))))), own_keep h.i (fun g e => k.block g (own_lt h.i e) (hT g (.inr (.inr (.inr e.symm)))))⟩
theorem Bk.nu {w w' : World} {B b : Nat} {mv sv iv : Value} {ml sl il : List Value} (h : Bk w B b mv sv iv ml sl il) (k : Kp Nu w w') : Bk w' B b mv sv iv ml sl il := h.keep k (fun _ _ e => e)
theorem own_bc {w w' : World} {B b B' t e n : Nat} {mv sv iv v : Value} {ml sl il xs : List Value} (h : Bk w B b mv sv iv ml sl il) (hr : w.ownsRow B' t e v n xs) (k : Kp (Bc b mv sv iv) w w') (h1 : t ≠ 60) (h2 : t ≠ 27) (h3 : t ≠ 22) (h4 : t ≠ 45) : w'.ownsRow B' t e v n xs :=
  own_keep hr (fun g e => by
    obtain ⟨c, hc⟩ := own_obj hr e
    exact k.block g (own_lt hr e) (h.other hc h1 h2 h3 h4))
theorem set_bk {w : World} {b : Nat} {c0 c1 c2 : Value} {t : TypeId} (h : w.heap[b]? = some (.cells #[c0, c1, c2] t (0, 0))) (v : Value) :
    (w.setCell ⟨b, 0, none⟩ v).heap[b]? = some (.cells #[v, c1, c2] t (0, 0)) ∧ (w.setCell ⟨b, 1, none⟩ v).heap[b]? = some (.cells #[c0, v, c2] t (0, 0)) ∧ (w.setCell ⟨b, 2, none⟩ v).heap[b]? = some (.cells #[c0, c1, v] t (0, 0)) := ⟨set3 h 0 v, set3 h 1 v, set3 h 2 v⟩
/-- a list more of moves -/
theorem Bk.putM {w w1 w2 : World} {B b g n : Nat} {mv sv iv m : Value} {ml sl il : List Value} {cap : Nat} (h : Bk w B b mv sv iv ml sl il) (k : Kp Nu w w1) (hr : w2.ownsRow B 27 1 (.slice (some ⟨g, 0, none⟩) n cap) n (ml ++ [m])) (hn : n = ml.length + 1) (hg : w1.grownBy w2 mv.ownBlock) :
    Bk (w2.setCell ⟨b, 0, none⟩ (.slice (some ⟨g, 0, none⟩) n cap)) B b (.slice (some ⟨g, 0, none⟩) n cap) sv iv (ml ++ [m]) sl il ∧ Kp (Bc b mv sv iv) w (w2.setCell ⟨b, 0, none⟩ (.slice (some ⟨g, 0, none⟩) n cap)) := by
  have kg := Kp.of_grown hg
  have h1 := h.nu k
  have nm : ∀ {x : Nat} {c : Array Value} {t : TypeId}, w1.heap[x]? = some (.cells c t (0, 0)) → t ≠ 27 → ¬ some x = mv.ownBlock := fun hx ht e => by
    obtain ⟨cc, hcc⟩ := own_obj h1.m e.symm
    rw [hcc] at hx; cases hx; exact ht rfl
  have b2 := (kg.block b (blk_lt h1.blk) (nm h1.blk (by decide))).trans h1.blk
  have s2 := own_keep h1.s (fun x e => by
    obtain ⟨c, hc⟩ := own_obj h1.s e
    exact kg.block x (own_lt h1.s e) (nm hc (by decide)))
  have i2 := own_keep h1.i (fun x e => by
    obtain ⟨c, hc⟩ := own_obj h1.i e
    exact kg.block x (own_lt h1.i e) (nm hc (by decide)))
  have ks := (Kp.refl (fun x => x = b) w2).andSet ⟨b, 0, none⟩ (.slice (some ⟨g, 0, none⟩) n cap) (.inr rfl)
  have row : ∀ {B' t e n' : Nat} {v : Value} {xs : List Value}, w2.ownsRow B' t e v n' xs → t ≠ 60 → (w2.setCell ⟨b, 0, none⟩ (.slice (some ⟨g, 0, none⟩) n cap)).ownsRow B' t e v n' xs := fun hr ht => own_keep hr (fun x e => by
    obtain ⟨c, hc⟩ := own_obj hr e
    exact ks.block x (own_lt hr e) (fun e2 => by
      have e3 : x = b := e2
      rw [e3, b2] at hc; cases hc; exact ht rfl))
  refine ⟨⟨(set_bk b2 _).1, ?_, row s2 (by decide), row i2 (by decide)⟩, ?_⟩
  · rw [List.length_append]
    subst hn
    exact row hr (by decide)
  · refine (((k.mono (fun _ _ e => e.elim)).trans kg (fun x _ e => .inr (.inl e))).andSet _ _ (.inr (.inl rfl)))
theorem Bk.putS {w w1 w2 : World} {B b g n : Nat} {mv sv iv m : Value} {ml sl il : List Value} {cap : Nat} (h : Bk w B b mv sv iv ml sl il) (k : Kp Nu w w1) (hr : w2.ownsRow B 22 1 (.slice (some ⟨g, 0, none⟩) n cap) n (sl ++ [m])) (hn : n = sl.length + 1) (hg : w1.grownBy w2 sv.ownBlock) :
    Bk (w2.setCell ⟨b, 1, none⟩ (.slice (some ⟨g, 0, none⟩) n cap)) B b mv (.slice (some ⟨g, 0, none⟩) n cap) iv ml (sl ++ [m]) il ∧ Kp (Bc b mv sv iv) w (w2.setCell ⟨b, 1, none⟩ (.slice (some ⟨g, 0, none⟩) n cap)) := by
  have kg := Kp.of_grown hg
  have h1 := h.nu k
  have nm : ∀ {x : Nat} {c : Array Value} {t : TypeId}, w1.heap[x]? = some (.cells c t (0, 0)) → t ≠ 22 → ¬ some x = sv.ownBlock := fun hx ht e => by
    obtain ⟨cc, hcc⟩ := own_obj h1.s e.symm
    rw [hcc] at hx; cases hx; exact ht rfl
  have b2 := (kg.block b (blk_lt h1.blk) (nm h1.blk (by decide))).trans h1.blk
  have s2 := own_keep h1.m (fun x e => by
    obtain ⟨c, hc⟩ := own_obj h1.m e
    exact kg.block x (own_lt h1.m e) (nm hc (by decide)))
  have i2 := own_keep h1.i (fun x e => by
    obtain ⟨c, hc⟩ := own_obj h1.i e
    exact kg.block x (own_lt h1.i e) (nm hc (by decide)))
  have ks := (Kp.refl (fun x => x = b) w2).andSet ⟨b, 1, none⟩ (.slice (some ⟨g, 0, none⟩) n cap) (.inr rfl)
  have row : ∀ {B' t e n' : Nat} {v : Value} {xs : List Value}, w2.ownsRow B' t e v n' xs → t ≠ 60 → (w2.setCell ⟨b, 1, none⟩ (.slice (some ⟨g, 0, none⟩) n cap)).ownsRow B' t e v n' xs := fun hr ht => own_keep hr (fun x e => by
    obtain ⟨c, hc⟩ := own_obj hr e
    exact ks.block x (own_lt hr e) (fun e2 => by
      have e3 : x = b := e2
      rw [e3, b2] at hc; cases hc; exact ht rfl))
  refine ⟨⟨(set_bk b2 _).2.1, row s2 (by decide), ?_, row i2 (by decide)⟩, ?_⟩
  · rw [List.length_append]
    subst hn
    exact row hr (by decide)
  · refine (((k.mono (fun _ _ e => e.elim)).trans kg (fun x _ e => .inr (.inr (.inl e)))).andSet _ _ (.inr (.inl rfl)))
theorem Bk.putI {w w1 w2 : World} {B b g n : Nat} {mv sv iv m m2 : Value} {ml sl il : List Value} {cap : Nat} (h : Bk w B b mv sv iv ml sl il) (k : Kp Nu w w1) (hr : w2.ownsRow B 45 1 (.slice (some ⟨g, 0, none⟩) n cap) n (il ++ [m, m2])) (hn : n = il.length + 2) (hg : w1.grownBy w2 iv.ownBlock) :
    Bk (w2.setCell ⟨b, 2, none⟩ (.slice (some ⟨g, 0, none⟩) n cap)) B b mv sv (.slice (some ⟨g, 0, none⟩) n cap) ml sl (il ++ [m, m2]) ∧ Kp (Bc b mv sv iv) w (w2.setCell ⟨b, 2, none⟩ (.slice (some ⟨g, 0, none⟩) n cap)) := by
  have kg := Kp.of_grown hg
  have h1 := h.nu k
  have nm : ∀ {x : Nat} {c : Array Value} {t : TypeId}, w1.heap[x]? = some (.cells c t (0, 0)) → t ≠ 45 → ¬ some x = iv.ownBlock := fun hx ht e => by
    obtain ⟨cc, hcc⟩ := own_obj h1.i e.symm
    rw [hcc] at hx; cases hx; exact ht rfl
  have b2 := (kg.block b (blk_lt h1.blk) (nm h1.blk (by decide))).trans h1.blk
  have s2 := own_keep h1.m (fun x e => by
    obtain ⟨c, hc⟩ := own_obj h1.m e
    exact kg.block x (own_lt h1.m e) (nm hc (by decide)))
  have i2 := own_keep h1.s (fun x e => by
    obtain ⟨c, hc⟩ := own_obj h1.s e
    exact kg.block x (own_lt h1.s e) (nm hc (by decide)))
  have ks := (Kp.refl (fun x => x = b) w2).andSet ⟨b, 2, none⟩ (.slice (some ⟨g, 0, none⟩) n cap) (.inr rfl)
  have row : ∀ {B' t e n' : Nat} {v : Value} {xs : List Value}, w2.ownsRow B' t e v n' xs → t ≠ 60 → (w2.setCell ⟨b, 2, none⟩ (.slice (some ⟨g, 0, none⟩) n cap)).ownsRow B' t e v n' xs := fun hr ht => own_keep hr (fun x e => by
    obtain ⟨c, hc⟩ := own_obj hr e
    exact ks.block x (own_lt hr e) (fun e2 => by
      have e3 : x = b := e2
      rw [e3, b2] at hc; cases hc; exact ht rfl))
  refine ⟨⟨(set_bk b2 _).2.2, row s2 (by decide), row i2 (by decide), ?_⟩, ?_⟩
  · rw [List.length_append]
    subst hn
    exact row hr (by decide)
  · refine (((k.mono (fun _ _ e => e.elim)).trans kg (fun x _ e => .inr (.inr (.inr e)))).andSet _ _ (.inr (.inl rfl)))
/-- what is asked of a layout and its keys -/
structure AskR (w w' : World) (N : Nat) (S : List Sg) (k : List Int) (most : Int) (m s l t : Value) (ms : List Mv) (R : List Sg) : Prop where
  stp : ∃ σ, Stps k most (sg0 N (lays [] S) k) ms σ ∧ Fin σ
  pl : pl (lays [] S) ms = some R
  mv : Mvs w' m ms
  ml : ms.length ≤ 4096
  mo : ∃ xs, w'.ownsRow w.heap.size 41 5 m ms.length xs
  so : w'.ownsRow w.heap.size 38 3 s R.length (cells R)
  rl : R.length ≤ 16384
  lo : w'.ownsRow w.heap.size 3 1 l N (Pn.ics (Pn.lds N (k.map (ow (lays [] S)))))
  tg : w'.ownsRow w.heap.size 3 1 t N (Pn.ics (Pn.tgs (Pn.lds N (k.map (ow (lays [] S)))) N))
  ne : ∀ g, l.ownBlock = some g → t.ownBlock = some g → False
end Go.Proofs.YtbifmcadllilhaaGreat.Rg
namespace Go.Proofs.YtbifmcadllilhaaGreat.Rg
open Go.RowKit Go.Shelf Go.Sort
open Go.Proofs.YtbifmcadllilhaaGreat.It
set_option linter.unusedVariables false
theorem news_one {w : World} (m : Value) (t : TypeId) : ∀ j u, [m][j]? = some u → (w.alloc (.cells #[m] t)).cell? ((⟨w.heap.size, 0, none⟩ : Addr).add j) = some u := World.news_of_block (heap_alloc_new _ _)
theorem news_two {w : World} (m l : Value) (t : TypeId) : ∀ j u, [m, l][j]? = some u → (w.alloc (.cells #[m, l] t)).cell? ((⟨w.heap.size, 0, none⟩ : Addr).add j) = some u := World.news_of_block (heap_alloc_new _ _)
theorem Mvs.keep {w w' : World} {v : Value} {ms : List Mv} (h : Mvs w v ms) (hk : ∀ g, v.ownBlock = some g → w'.heap[g]? = w.heap[g]?) : Mvs w' v ms := by
  obtain ⟨a, cap, rfl, h1⟩ := h
  refine ⟨a, cap, rfl, fun i m hm => ?_⟩
  obtain ⟨b, o, rfl, h2⟩ := h1 i m hm
  have e := hk b rfl
  have cc : ∀ {x : Addr} {u : Value}, x.block = b → w.cell? x = some u → w'.cell? x = some u := fun hx hu => (World.cell?_of_block (by rw [hx]; exact e)).trans hu
  exact ⟨b, o, rfl, ⟨cc rfl h2.c0, cc rfl h2.c1, cc rfl h2.c2, cc rfl h2.c3, cc rfl h2.c4, h2.fit⟩⟩
set_option maxRecDepth 100000 in
set_option maxHeartbeats 4000000 in
theorem ask19 (w : World) (B b : Nat) (mv sv iv : Value) (ml sl il : List Value) (N : Nat) (u ku : Value) (S : List Sg) (k : List Int) (most : Int) (hB : Bk w B b mv sv iv ml sl il) (hBw : B ≤ w.heap.size) (hml : ml.length ≤ 100) (hsl : sl.length ≤ 100) (hil : il.length ≤ 100) (hN1 : 1 ≤ N) (hN16 : N ≤ 16) (hm1 : 1 ≤ most) (hm32 : most ≤ 32) (hS : Sgs w u S) (hSl : S.length ≤ 4096) (hk : Us w ku k) (hkl : k.length ≤ 4096) (hkr : ∀ x ∈ k, 0 ≤ x ∧ x < 18446744073709551616) (hnil : ∀ m c, ku = .slice none m c → c = 0) (hgS : Good S) (hbS : ∀ s ∈ S, 0 ≤ s.h ∧ s.h < (N : Int)) (hLB : LayB (N : Int) S k) :
    Calls Tryz.prog 19 #[.pointer (some ⟨b, 0, none⟩), .int .i64 (N : Int), u, ku, .int .i64 most] w fun e w' => e = .returned (.bool true) ∧ ∃ mv' sv' iv' m s l t ms R, Bk w' B b mv' sv' iv' (ml ++ [m]) (sl ++ [s]) (il ++ [l, t]) ∧ AskR w w' N S k most m s l t ms R ∧ Kp (Bc b mv sv iv) w w' := by
  have MO := moves24o w (N : Int) most u ku S k hS (by omega) hk hkl hkr hnil
  obtain ⟨sa, sc, eu⟩ := hS.slice
  obtain ⟨ka, kc, eku, hd1, hd2⟩ := id hk
  have HA := hide (And.intro hB (And.intro hBw (And.intro hS (And.intro hk (And.intro hkr (And.intro hnil (And.intro hgS (And.intro hbS hLB))))))))
  obtain ⟨SL, eSL⟩ : ∃ SL, S.length = SL := ⟨_, rfl⟩
  obtain ⟨KL, eKL⟩ : ∃ KL, k.length = KL := ⟨_, rfl⟩
  rw [eSL] at eu hSl
  rw [eKL] at eku hkl
  have HL := hide (And.intro eSL eKL)
  have hNI1 : (1 : Int) ≤ (N : Int) := by omega
  have hNI : (N : Int) ≤ 16 := by omega
  subst eu
  subst eku
  obtain ⟨mN, emN⟩ : ∃ n, ml.length = n := ⟨_, rfl⟩
  obtain ⟨sN, esN⟩ : ∃ n, sl.length = n := ⟨_, rfl⟩
  obtain ⟨iN, eiN⟩ : ∃ n, il.length = n := ⟨_, rfl⟩
  have HN := hide (And.intro emN (And.intro esN eiN))
  rw [emN] at hml
  rw [esN] at hsl
  rw [eiN] at hil
  clear hB hBw hS hk hkr hnil hgS hbS hLB eSL eKL emN esN eiN hd1 hd2
  go_enter Tryz.func19, Tryz.ntmps19
  go_wp2_with fail
  refine MO.mono ?_; rintro e w1 ⟨v, c, rfl, ⟨hMo, hMx⟩, hk1⟩
  obtain ⟨hB, hBw, hS, hk, hkr, hnil, hgS, hbS, hLB⟩ := HA.out
  have hMo2 : c = 0 ∧ ∃ ms σ, Stps k most (sg0 N (lays [] S) k) ms σ ∧ Fin σ ∧ Mvs w1 v ms ∧ ms.length ≤ 4096 := by
    rcases hMo with ⟨h, _⟩ | ⟨_, h, _⟩ | ⟨_, _, h0, N', hN', ms, σ, h1, h2, h3, h4⟩
    · exact absurd ⟨⟨hNI1, hNI⟩, hm1, hm32⟩ h
    · exact absurd hLB h
    · have : N' = N := by omega
      subst this
      exact ⟨h0, ms, σ, h1, h2, h3, h4⟩
  obtain ⟨rfl, ms, σ, hst, hfin, hmv, hmsl⟩ := hMo2
  obtain ⟨R, hE⟩ := ev_of hgS hbS hN1 hN16 hLB.2.2 hkr hm1 hst hfin
  have PL := play15 w1 _ _ S ms (hS.nu hk1) (by have := HL.out.1; omega) hmv hmsl
  obtain ⟨va, vc, ev, _⟩ := id hmv
  have hmo : ∃ xs, w1.ownsRow w.heap.size 41 5 v ms.length xs := by
    obtain ⟨m, xs, h⟩ := hMx
    obtain ⟨a', c', e'⟩ := own_slice h
    rw [e'] at ev
    cases ev
    exact ⟨xs, h⟩
  have H1 := hide (And.intro hst (And.intro hfin (And.intro hE (And.intro hk1 (And.intro hmv (And.intro hmsl hmo))))))
  obtain ⟨ML, eML⟩ : ∃ ML, ms.length = ML := ⟨_, rfl⟩
  rw [eML] at ev
  subst ev
  have HML := hide eML
  clear MO hMo hMx hB hBw hS hk hkr hnil hgS hbS hLB hst hfin hE hk1 hmv hmsl hmo eML
  go_wp2_with fail
  refine PL.mono ?_; rintro e w2 ⟨v, c, rfl, hP, hk2⟩
  have hP2 : c = 0 ∧ R.length ≤ 16384 ∧ w2.ownsRow w1.heap.size 38 3 v R.length (cells R) := by
    obtain ⟨_, _, _, _, _, _, _, _, hLB⟩ := HA.out
    have hE := H1.out.2.2.1
    rcases hP with ⟨h, _⟩ | ⟨_, h, _⟩ | ⟨_, h0, R', h1, h2, h3⟩
    · exact absurd hLB.1 h
    · rw [hE.pl] at h; cases h
    · rw [hE.pl] at h1; cases h1; exact ⟨h0, h2, h3⟩
  obtain ⟨rfl, hRl, hRo⟩ := hP2
  obtain ⟨ra, rc, er⟩ := own_slice hRo
  obtain ⟨RL, eRL⟩ : ∃ RL, R.length = RL := ⟨_, rfl⟩
  have H2 := hide (And.intro hRo (And.intro hk2 hRl))
  have LO : Calls Tryz.prog 17 #[.int .i64 (N : Int), .slice sa SL sc, .slice ka KL kc] w2 fun e w' => ∃ v c, e = .returned (.tuple #[v, .int .i64 c]) ∧ LoR w2 w' (N : Int) S k v c ∧ Kp Nu w2 w' := by
    obtain ⟨hB, hBw, hS, hk, hkr, hnil, hgS, hbS, hLB⟩ := HA.out
    have kk := H1.out.2.2.2.1.andNu hk2
    exact loads19 w2 (N : Int) _ _ S k (hS.nu kk) (by have := HL.out.1; omega) (hk.nu kk) (by have := HL.out.2; omega) hkr hnil
  rw [eRL] at er
  subst er
  clear PL hP hRl hRo hk2 eRL
  go_wp2_with fail
  refine LO.mono ?_; rintro e w3 ⟨v, c, rfl, hL, hk3⟩
  have hL2 : c = 0 ∧ w3.ownsRow w2.heap.size 3 1 v N (Pn.ics (Pn.lds N (k.map (ow (lays [] S))))) := by
    obtain ⟨_, _, _, _, _, _, _, _, hLB⟩ := HA.out
    rcases hL with ⟨h, _⟩ | ⟨_, h, _⟩ | ⟨_, _, h0, N', hN', h1⟩
    · exact absurd ⟨hNI1, hNI⟩ h
    · exact absurd hLB h
    · have : N' = N := by omega
      subst this
      exact ⟨h0, h1⟩
  obtain ⟨rfl, hLo⟩ := hL2
  obtain ⟨o, eo⟩ : ∃ o, Pn.lds N (k.map (ow (lays [] S))) = o := ⟨_, rfl⟩
  have hol : o.length = N := by rw [← eo]; exact Pn.lds_len _ _
  have hob : ∀ x ∈ o, 0 ≤ x ∧ x ≤ 4096 := fun x hx => by
    rw [← eo] at hx
    obtain ⟨q, _, rfl⟩ := List.mem_map.1 hx
    have := Pn.cnt_le (k.map (ow (lays [] S))) q
    rw [List.length_map] at this
    have := HL.out.2
    omega
  rw [eo] at hLo
  obtain ⟨la, lc, el⟩ := own_slice hLo
  have TG := Pn.targets13 w3 v o (Pn.Ns.of_own (B := w2.heap.size) (by rw [hol]; exact hLo)) (by omega)
  have hmb : Pn.MBL o := ⟨by omega, by omega, fun x hx => by have := hob x hx; omega⟩
  have H3 := hide (And.intro hLo (And.intro hk3 (And.intro eo (And.intro hol hmb))))
  subst el
  clear LO hL hk3 hLo eo hob hmb
  go_wp2_with fail
  refine TG.mono ?_; rintro e w4 hT
  rcases hT with ⟨h, _⟩ | ⟨_, ta, tc, rfl, hTo, hk4⟩
  · exact absurd H3.out.2.2.2.2 h
  have hk4 : Kp Nu w3 w4 := Kp.ofPn hk4
  rw [hol] at hTo
  have H4 := hide (And.intro hTo hk4)
  -- the book
  have kA : Kp Nu w w4 := ((H1.out.2.2.2.1.andNu H2.out.2.1).andNu H3.out.2.1).andNu hk4
  have hB4 := HA.out.1.nu kA
  obtain ⟨c0, c1, c2⟩ := cell3 hB4.blk
  have f0 := free3 hB4.blk 0
  have hm4 : w4.ownsRow B 27 1 mv mN ml := by have := hB4.m; rw [HN.out.1] at this; exact this
  have hbs : B ≤ w4.heap.size := by have := HA.out.2.1; have := kA.size; omega
  obtain ⟨ma, mc, emv⟩ := own_slice hm4
  obtain ⟨i0, hiT, hz0, hz1, hz2⟩ := info_parts info27l
  subst emv
  have HB4 := hide (And.intro hB4 (And.intro kA (And.intro hm4 hbs)))
  rw [hol]
  clear TG hTo hk4 kA hB4 hm4 hbs hol
  go_wp2_with (at_builtin; refine unhid ?_)
  refine wpList_append_lies _ rfl _ _ 56 rfl B 27 i0 _ 1 24 Tryz.underlying56 hiT hz0 hz1 hz2 rfl (by decide) (.slice ma mN mc) mN ml rfl (HB4.out.2.2.1.alloc _) ⟨w4.heap.size, 0, none⟩ 1 1 [.slice va ML vc] (by first | rfl | (simp; done)) rfl (news_one _ _) (by simp [Value.oneCell']) (by decide) (by unfold maxLen; omega) (by omega) (by rw [World.size_alloc]; have := HB4.out.2.2.2; omega) _ rfl ?_
  intro g5 cap5 w5 hown5 hgrow5 hat5 hlt5
  have HT5 := hide hat5
  obtain ⟨hB5, k5⟩ := HB4.out.1.putM (Kp.alloc w4 (.cells #[.slice va ML vc] 27) Nu) hown5 (by rw [HN.out.1]) hgrow5
  obtain ⟨W5, hW5⟩ : ∃ W, w5.setCell ⟨b, 0, none⟩ (.slice (some ⟨g5, 0, none⟩) (mN + 1) cap5) = W := ⟨_, rfl⟩
  have b5 : w5.heap[b]? = some (.cells #[.slice ma mN mc, sv, iv] 60 (0, 0)) := by
    have h1 := HB4.out.1.nu (Kp.alloc w4 (.cells #[.slice va ML vc] 27) Nu)
    refine ((Kp.of_grown hgrow5).block b (blk_lt h1.blk) (fun e => ?_)).trans h1.blk
    obtain ⟨cc, hcc⟩ := own_obj h1.m e.symm
    rw [h1.blk] at hcc; cases hcc
  obtain ⟨d0, d1, d2⟩ := cell3 b5
  have g0 := free3 b5 0
  rw [hW5] at hB5 k5
  obtain ⟨x0, x1, x2⟩ := cell3 hB5.blk
  have y1 := free3 hB5.blk 1
  have hs5 : W5.ownsRow B 22 1 sv sN sl := by have := hB5.s; rw [HN.out.2.1] at this; exact this
  obtain ⟨sva, svc, esv⟩ := own_slice hs5
  obtain ⟨i1, hiT1, hz01, hz11, hz21⟩ := info_parts info22l
  have hbs5 : B ≤ W5.heap.size := by have := HB4.out.2.2.2; have := k5.size; omega
  subst esv
  have HB5 := hide (And.intro hB5 (And.intro k5 (And.intro hs5 hbs5)))
  clear hown5 hgrow5 hat5 hlt5 c0 c1 c2 f0 hB5 k5 hs5 hbs5 b5
  go_wp2_with (at_builtin; refine unhid ?_)
  refine wpList_append_lies _ rfl _ _ 57 rfl B 22 i1 _ 1 24 Tryz.underlying57 hiT1 hz01 hz11 hz21 rfl (by decide) (.slice sva sN svc) sN sl rfl (HB5.out.2.2.1.alloc _) ⟨W5.heap.size, 0, none⟩ 1 1 [.slice ra RL rc] (by first | rfl | (simp; done)) rfl (news_one _ _) (by simp [Value.oneCell']) (by decide) (by unfold maxLen; omega) (by omega) (by rw [World.size_alloc]; have := HB5.out.2.2.2; omega) _ rfl ?_
  intro g6 cap6 w6 hown6 hgrow6 hat6 hlt6
  have HT6 := hide hat6
  obtain ⟨hB6, k6⟩ := HB5.out.1.putS (Kp.alloc W5 (.cells #[.slice ra RL rc] 22) Nu) hown6 (by rw [HN.out.2.1]) hgrow6
  obtain ⟨W6, hW6⟩ : ∃ W, w6.setCell ⟨b, 1, none⟩ (.slice (some ⟨g6, 0, none⟩) (sN + 1) cap6) = W := ⟨_, rfl⟩
  have b6 : w6.heap[b]? = some (.cells #[.slice (some ⟨g5, 0, none⟩) (mN + 1) cap5, .slice sva sN svc, iv] 60 (0, 0)) := by
    have h1 := HB5.out.1.nu (Kp.alloc W5 (.cells #[.slice ra RL rc] 22) Nu)
    refine ((Kp.of_grown hgrow6).block b (blk_lt h1.blk) (fun e => ?_)).trans h1.blk
    obtain ⟨cc, hcc⟩ := own_obj h1.s e.symm
    rw [h1.blk] at hcc; cases hcc
  obtain ⟨p0, p1, p2⟩ := cell3 b6
  have q1 := free3 b6 1
  rw [hW6] at hB6 k6
  obtain ⟨r0, r1, r2⟩ := cell3 hB6.blk
  have hi6 : W6.ownsRow B 45 1 iv iN il := by have := hB6.i; rw [HN.out.2.2] at this; exact this
  obtain ⟨iva, ivc, eiv⟩ := own_slice hi6
  obtain ⟨i2, hiT2, hz02, hz12, hz22⟩ := info_parts info45l
  have hbs6 : B ≤ W6.heap.size := by have := HB5.out.2.2.2; have := k6.size; omega
  subst eiv
  have HB6 := hide (And.intro hB6 (And.intro k6 (And.intro hi6 hbs6)))
  clear hown6 hgrow6 hat6 hlt6 x0 x1 x2 y1 d0 d1 d2 g0 hB6 k6 hi6 hbs6 b6 hW5
  go_wp2_with (at_builtin; refine unhid ?_)
  refine wpList_append_lies _ rfl _ _ 58 rfl B 45 i2 _ 1 24 Tryz.underlying58 hiT2 hz02 hz12 hz22 rfl (by decide) (.slice iva iN ivc) iN il rfl (HB6.out.2.2.1.alloc _) ⟨W6.heap.size, 0, none⟩ 2 2 [.slice la N lc, .slice ta N tc] (by first | rfl | (simp; done)) rfl (news_two _ _ _) (by simp [Value.oneCell']) (by decide) (by unfold maxLen; omega) (by omega) (by rw [World.size_alloc]; have := HB6.out.2.2.2; omega) _ rfl ?_
  intro g7 cap7 w7 hown7 hgrow7 hat7 hlt7
  have HT7 := hide hat7
  obtain ⟨hB7, k7⟩ := HB6.out.1.putI (Kp.alloc W6 (.cells #[.slice la N lc, .slice ta N tc] 45) Nu) hown7 (by rw [HN.out.2.2]) hgrow7
  obtain ⟨W7, hW7⟩ : ∃ W, w7.setCell ⟨b, 2, none⟩ (.slice (some ⟨g7, 0, none⟩) (iN + 2) cap7) = W := ⟨_, rfl⟩
  have b7 : w7.heap[b]? = some (.cells #[.slice (some ⟨g5, 0, none⟩) (mN + 1) cap5, .slice (some ⟨g6, 0, none⟩) (sN + 1) cap6, .slice iva iN ivc] 60 (0, 0)) := by
    have h1 := HB6.out.1.nu (Kp.alloc W6 (.cells #[.slice la N lc, .slice ta N tc] 45) Nu)
    refine ((Kp.of_grown hgrow7).block b (blk_lt h1.blk) (fun e => ?_)).trans h1.blk
    obtain ⟨cc, hcc⟩ := own_obj h1.i e.symm
    rw [h1.blk] at hcc; cases hcc
  obtain ⟨s0, s1, s2⟩ := cell3 b7
  have t2 := free3 b7 2
  rw [hW7] at hB7 k7
  have HB7 := hide (And.intro hB7 k7)
  have NU := fun W => Pn.num12 W 0
  have eNN : ((N : Int) == (N : Int)) = true := by simp
  clear hown7 hgrow7 hat7 hlt7 r0 r1 r2 p0 p1 p2 q1 hB7 k7 b7 hW6
  go_wp2_with (first | (go_at_call 10; refine (NU _).mono ?_; rintro e w' ⟨rfl, hw'⟩; obtain rfl := hw'.symm))
  go_ret
  obtain ⟨hst, hfin, hE, hk1, hmv, hmsl, hmo⟩ := H1.out
  obtain ⟨hRo, hk2, hRl⟩ := H2.out
  obtain ⟨hLo, hk3, eo, _, _⟩ := H3.out
  obtain ⟨hTo, hk4⟩ := H4.out
  obtain ⟨hB4, kA, _, _⟩ := HB4.out
  obtain ⟨hB5, k5, _, _⟩ := HB5.out
  obtain ⟨hB6, k6, _, _⟩ := HB6.out
  obtain ⟨hB7, k7⟩ := HB7.out
  -- rows over the three stores
  have rows : ∀ {B' t e n : Nat} {v : Value} {xs : List Value}, w4.ownsRow B' t e v n xs → t ≠ 60 → t ≠ 27 → t ≠ 22 → t ≠ 45 → W7.ownsRow B' t e v n xs := fun h h1 h2 h3 h4 =>
    own_bc hB6 (own_bc hB5 (own_bc hB4 h k5 h1 h2 h3 h4) k6 h1 h2 h3 h4) k7 h1 h2 h3 h4
  have low : ∀ {B' t e n : Nat} {v : Value} {xs : List Value}, W7.ownsRow B' t e v n xs → w.heap.size ≤ B' → W7.ownsRow w.heap.size t e v n xs := fun h hB => own_lower h hB
  have z1 := hk1.size
  have z2 := hk2.size
  have z3 := hk3.size
  obtain ⟨xs, hmo⟩ := hmo
  have nu : ∀ {w w' : World} {B' t e n : Nat} {v : Value} {xs : List Value}, Kp Nu w w' → w.ownsRow B' t e v n xs → w'.ownsRow B' t e v n xs := fun k h => own_keep h (fun g e => k.block g (own_lt h e) (fun h => h))
  have hmo4 := nu hk4 (nu hk3 (nu hk2 hmo))
  have hmo7 := rows hmo4 (by decide) (by decide) (by decide) (by decide)
  refine ⟨rfl, _, _, _, .slice va ML vc, .slice ra RL rc, .slice la N lc, .slice ta N tc, ms, R, hB7, ⟨⟨σ, hst, hfin⟩, hE.pl, ?_, hmsl, ⟨xs, hmo7⟩, low (rows (nu hk4 (nu hk3 hRo)) (by decide) (by decide) (by decide) (by decide)) (by omega), hRl, ?_, ?_, ?_⟩, ?_⟩
  · have hmv4 := ((hmv.nu hk2).nu hk3).nu hk4
    refine hmv4.keep (fun g e => ?_)
    obtain ⟨c4, hc4⟩ := own_obj hmo4 e
    have hl4 := own_lt hmo4 e
    have e5 := k5.block g hl4 (hB4.other hc4 (by decide) (by decide) (by decide) (by decide))
    have hc5 := e5.trans hc4
    have e6 := k6.block g (blk_lt hc5) (hB5.other hc5 (by decide) (by decide) (by decide) (by decide))
    have hc6 := e6.trans hc5
    have e7 := k7.block g (blk_lt hc6) (hB6.other hc6 (by decide) (by decide) (by decide) (by decide))
    rw [e7, e6, e5]
  · rw [eo]
    exact low (rows (nu hk4 hLo) (by decide) (by decide) (by decide) (by decide)) (by omega)
  · rw [eo]
    exact low (rows hTo (by decide) (by decide) (by decide) (by decide)) (by omega)
  · intro g e1 e2
    have h1 := own_lt hLo e1
    have h2 := (hTo.lt g e2).1
    omega
  · have zA := kA.size
    have z5 := k5.size
    have h5 : ∀ i, i < w.heap.size → some i = some g5 → some i = (Value.slice ma mN mc).ownBlock := fun i hi e => by
      rcases HT5.out with h | h
      · rw [h]; exact e
      · rw [World.size_alloc] at h; cases e; omega
    have h6 : ∀ i, i < w.heap.size → some i = some g6 → some i = (Value.slice sva sN svc).ownBlock := fun i hi e => by
      rcases HT6.out with h | h
      · rw [h]; exact e
      · rw [World.size_alloc] at h; cases e; omega
    refine (((kA.mono (fun _ _ e => e.elim)).trans k5 (fun i _ e => e)).trans k6 (fun i hi e => ?_)).trans k7 (fun i hi e => ?_)
    · rcases e with e | e | e | e
      · exact .inl e
      · exact .inr (.inl (h5 i hi e))
      · exact .inr (.inr (.inl e))
      · exact .inr (.inr (.inr e))
    · rcases e with e | e | e | e
      · exact .inl e
      · exact .inr (.inl (h5 i hi e))
      · exact .inr (.inr (.inl (h6 i hi e)))
      · exact .inr (.inr (.inr e))
end Go.Proofs.YtbifmcadllilhaaGreat.Rg
