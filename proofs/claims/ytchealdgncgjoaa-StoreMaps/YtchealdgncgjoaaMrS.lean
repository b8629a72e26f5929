import Derived.Test.YtchealdgncgjoaaMrL
import Derived.StillTailTactics
namespace Go.Proofs.Ytchealdgncgjoaa.StM
open Go.RowKit Go.Proofs.Ytchealdgncgjoaa.St Go.Shelf Go.Sort Go.Proofs.Ytchealdgncgjoaa.It Go.Proofs.Ytchealdgncgjoaa.StI
set_option linter.unusedVariables false
set_option linter.unusedSimpArgs false
theorem Mp.kind {bw : Nat} {wh : Int} {W Z : World} {mb : Nat} {t : T (Int × Int)} {P : Nat → Prop} (h : Mp bw wh W mb t) (k : Kp P W Z) (hP : ∀ g, P g → ∃ c ty p, W.heap[g]? = some (.cells c ty p) ∧ ty ≠ 130 ∧ ty ≠ 52 ∧ ty ≠ 3 ∧ ty ≠ 136) : Mp bw wh Z mb t := by
  obtain ⟨a, e1, e2⟩ := h.ex
  have hn : ∀ g c ty p, W.heap[g]? = some (.cells c ty p) → (ty = 130 ∨ ty = 52 ∨ ty = 3 ∨ ty = 136) → ¬ P g := fun g c ty p hg ht e => by
    obtain ⟨c', ty', p', hg', n1, n2, n3, n4⟩ := hP g e
    rw [hg] at hg'
    cases hg'
    rcases ht with e | e | e | e <;> contradiction
  exact ⟨⟨a, (k.block _ (blk_lt e1) (hn _ _ _ _ e1 (.inl rfl))).trans e1, e2.keep (Kn.of k (fun b c hb => hn _ _ _ _ hb (.inr (.inr (.inr rfl)))))⟩, h.bal, h.srt, (k.block _ (blk_lt h.bx.1) (hn _ _ _ _ h.bx.1 (.inr (.inr (.inl rfl))))).trans h.bx.1, h.bx.2⟩
theorem rm_kind {B : Nat} {wh : Int} {W Z : World} {rb : Nat} {vk vv : Value} {xs : List (Int × Int)} {P : Nat → Prop} (h : Rm B W rb wh vk vv xs) (k : Kp P W Z) (hP : ∀ g, P g → ∃ c ty p, W.heap[g]? = some (.cells c ty p) ∧ ty ≠ 130 ∧ ty ≠ 52 ∧ ty ≠ 3 ∧ ty ≠ 136) : Rm B Z rb wh vk vv xs := by
  have hn : ∀ g c ty p, W.heap[g]? = some (.cells c ty p) → (ty = 130 ∨ ty = 52 ∨ ty = 3 ∨ ty = 136) → ¬ P g := fun g c ty p hg ht e => by
    obtain ⟨c', ty', p', hg', n1, n2, n3, n4⟩ := hP g e
    rw [hg] at hg'
    cases hg'
    rcases ht with e | e | e | e <;> contradiction
  refine ⟨(k.block _ (blk_lt h.blk) (hn _ _ _ _ h.blk (.inr (.inl rfl)))).trans h.blk, ow_k h.ok k (fun g e => ?_), ow_k h.ov k (fun g e => ?_), h.apart⟩
  · obtain ⟨cur, hc⟩ := own_obj h.ok e
    exact hn _ _ _ _ hc (.inr (.inr (.inl rfl)))
  · obtain ⟨cur, hc⟩ := own_obj h.ov e
    exact hn _ _ _ _ hc (.inr (.inr (.inl rfl)))
/-- a row of pointers -/
theorem own_kind {W : World} {B n : Nat} {ty : TypeId} {v : Value} {l : List Value} (h : W.ownsRow B ty 1 v n l) (ht : ty = 22 ∨ ty = 48) : ∀ g, v.ownBlock = some g → ∃ c ty p, W.heap[g]? = some (.cells c ty p) ∧ ty ≠ 130 ∧ ty ≠ 52 ∧ ty ≠ 3 ∧ ty ≠ 136 := fun g e => by
  obtain ⟨cur, hc⟩ := own_obj h e
  exact ⟨cur, ty, _, hc, by rcases ht with e | e <;> subst e <;> decide, by rcases ht with e | e <;> subst e <;> decide, by rcases ht with e | e <;> subst e <;> decide, by rcases ht with e | e <;> subst e <;> decide⟩
theorem own_kept {w Z : World} {ty : TypeId} {B n : Nat} {v : Value} {l : List Value} {P : Nat → Prop} (o : w.ownsRow B ty 1 v n l) (k : Kp P w Z) (hP : ∀ g, v.ownBlock = some g → ¬ P g) : Z.ownsRow B ty 1 v n l :=
  own_keep o (fun g hg => k.block g (own_lt o hg) (hP g hg))
theorem own_apart {W : World} {B n m : Nat} {ty ty' : TypeId} {v u : Value} {l l' : List Value} (h : W.ownsRow B ty 1 v n l) (h' : W.ownsRow B ty' 1 u m l') (ht : ty ≠ ty') : ∀ g, v.ownBlock = some g → u.ownBlock ≠ some g := fun g e e' => by
  obtain ⟨c, hc⟩ := own_obj h e
  obtain ⟨c', hc'⟩ := own_obj h' e'
  rw [hc] at hc'
  cases hc'
  exact ht rfl
/-- the three maps, and the rows that hold them -/
structure Gs (bw : Nat) (wh : Int) (B n : Nat) (w W : World) (gm cm gr cr : Nat) (L : List Sl) : Prop where
  ma : Ma bw wh B n W L
  ms : W.ownsRow B 22 1 (.slice (some ⟨gm, 0, none⟩) 3 cm) 3 (L.map pm)
  rs : W.ownsRow B 48 1 (.slice (some ⟨gr, 0, none⟩) 3 cr) 3 (L.map pr)
  len : L.length = 3
  kp : Kp Nu w W
  hB : w.heap.size ≤ B
/-- one map is a clone already, its document's map not yet -/
structure Gm (bw : Nat) (wh : Int) (B n : Nat) (w W : World) (gm cm gr cr : Nat) (L : List Sl) (d mb : Nat) (t : T (Int × Int)) : Prop where
  ma : Ma bw wh B n W L
  ms : W.ownsRow B 22 1 (.slice (some ⟨gm, 0, none⟩) 3 cm) 3 ((L.map pm).set d (.pointer (some ⟨mb, 0, none⟩)))
  rs : W.ownsRow B 48 1 (.slice (some ⟨gr, 0, none⟩) 3 cr) 3 (L.map pr)
  len : L.length = 3
  kp : Kp Nu w W
  hB : w.heap.size ≤ B
  mp : Mp bw wh W mb t
  nw : ∃ W0, Ma bw wh B n W0 L ∧ W0.heap.size ≤ mb ∧ W0.heap.size ≤ W.heap.size ∧ B ≤ W0.heap.size
section
variable {bw : Nat} {wh : Int} {B n : Nat} {w W Z : World} {gm cm gr cr : Nat} {L : List Sl}
theorem Gs.nu (h : Gs bw wh B n w W gm cm gr cr L) (k : Kp Nu W Z) : Gs bw wh B n w Z gm cm gr cr L :=
  ⟨h.ma.nu k, own_kept h.ms k (fun _ _ e => e), own_kept h.rs k (fun _ _ e => e), h.len, h.kp.andNu k, h.hB⟩
theorem Gs.mono {m : Nat} (h : Gs bw wh B n w W gm cm gr cr L) (hm : n ≤ m) : Gs bw wh B m w W gm cm gr cr L := ⟨h.ma.mono hm, h.ms, h.rs, h.len, h.kp, h.hB⟩
theorem Gs.at (h : Gs bw wh B n w W gm cm gr cr L) {i : Nat} (hi : i < 3) : ∃ s, L[i]? = some s ∧ W.cell? ⟨gm, i, none⟩ = some (pm s) ∧ W.cell? ⟨gr, i, none⟩ = some (pr s) ∧ Mq bw wh B W s.mb s.rb s.vk s.vv s.t ∧ s.t.sz ≤ n := by
  obtain ⟨s, hs⟩ : ∃ s, L[i]? = some s := ⟨_, List.getElem?_eq_getElem (by rw [h.len]; exact hi)⟩
  obtain ⟨r, c, e, hc⟩ := ty_at (i := i) (u := pm s) h.ms (by simp [h.len]) (by simp [hs])
  obtain ⟨r2, c2, e2, hc2⟩ := ty_at (i := i) (u := pr s) h.rs (by simp [h.len]) (by simp [hs])
  cases e
  cases e2
  exact ⟨s, hs, hc, hc2, (h.ma.ok i s hs).1, (h.ma.ok i s hs).2.1⟩
theorem Gs.free (h : Gs bw wh B n w W gm cm gr cr L) (i : Nat) : W.frozen? ⟨gm, i, none⟩ = false := by
  obtain ⟨c, hc⟩ := own_obj h.ms rfl
  exact free3 hc i
theorem map_same {β : Type} {f : Sl → β} {i : Nat} {s s' : Sl} (hi : L[i]? = some s) (e : f s' = f s) : (L.set i s').map f = L.map f := by
  rw [List.map_set, e]
  refine List.ext_getElem? (fun j => ?_)
  rcases Nat.decEq i j with c | c
  · rw [List.getElem?_set_ne c]
  · subst c
    rw [List.getElem?_set_self (by simpa using (List.getElem?_eq_some_iff.1 hi).1)]
    simp [hi]
theorem Gs.step {i : Nat} {s : Sl} (h : Gs bw wh B n w W gm cm gr cr L) (hi : L[i]? = some s) (q : Sq bw wh B W s.mb s.rb s.vk s.vv s.t Z) : ∃ L', Gs bw wh B (n + 1) w Z gm cm gr cr L' := by
  obtain ⟨s', e1, e2, hm⟩ := h.ma.step hi q
  have hs := h.ma.ok i s hi
  obtain ⟨a, f1, _⟩ := hs.1.m.ex
  have hS : ∀ (g : Nat) c (ty : TypeId) p, W.heap[g]? = some (.cells c ty p) → (ty = 22 ∨ ty = 48) → ¬ (g = s.mb ∨ g = s.rb ∨ s.vv.ownBlock = some g) := fun g c ty p hg ht e => by
    rcases e with e | e | e
    · rw [e, f1] at hg; cases hg; rcases ht with e | e <;> cases e
    · rw [e, hs.1.r.blk] at hg; cases hg; rcases ht with e | e <;> cases e
    · obtain ⟨cur, hc⟩ := own_obj hs.1.r.ov e
      rw [hc] at hg; cases hg; rcases ht with e | e <;> cases e
  refine ⟨L.set i s', hm, ?_, ?_, by rw [List.length_set]; exact h.len, h.kp.trans q.kp (fun g hg e => ?_), h.hB⟩
  · rw [map_same hi (f := pm) (by simp only [pm, e1])]
    exact own_kept h.ms q.kp (fun g e => by obtain ⟨c, hc⟩ := own_obj h.ms e; exact hS g _ _ _ hc (.inl rfl))
  · rw [map_same hi (f := pr) (by simp only [pr, e2])]
    exact own_kept h.rs q.kp (fun g e => by obtain ⟨c, hc⟩ := own_obj h.rs e; exact hS g _ _ _ hc (.inr rfl))
  · have hb := h.hB
    rcases e with e | e | e
    · have := hs.2.2.1; omega
    · have := hs.2.2.2; omega
    · have := own_low hs.1.r.ov e; omega
theorem Gs.clone {d mb : Nat} {t : T (Int × Int)} {W1 : World} (h : Gs bw wh B n w W gm cm gr cr L) (hBW : B ≤ W.heap.size) (hmb : W.heap.size ≤ mb) (m : Mp bw wh W1 mb t) (k : Kp Nu W W1) : Gm bw wh B n w (W1.setCell ⟨gm, d, none⟩ (.pointer (some ⟨mb, 0, none⟩))) gm cm gr cr L d mb t := by
  have h1 := h.nu k
  have kk := Kp.setCell W1 ⟨gm, d, none⟩ (.pointer (some ⟨mb, 0, none⟩))
  have hP : ∀ g, g = gm → ∃ c ty p, W1.heap[g]? = some (.cells c ty p) ∧ ty ≠ 130 ∧ ty ≠ 52 ∧ ty ≠ 3 ∧ ty ≠ 136 := fun g e => own_kind h1.ms (.inl rfl) g (by rw [e]; rfl)
  refine ⟨h1.ma.kind kk hP, ty_set h1.ms _, own_kept h1.rs kk (fun g e e' => own_apart h1.ms h1.rs (by decide) g (by have e' : g = gm := e'; rw [e']; rfl) e), h.len, h1.kp.trans kk (fun g hg e => ?_), h.hB, m.kind kk hP, W, h.ma, hmb, by have := k.size; have := kk.size; omega, hBW⟩
  have e : g = gm := e
  have := ty_low h1.ms (g := gm) rfl
  have := h.hB
  omega
theorem Gm.at {d mb : Nat} {t : T (Int × Int)} (h : Gm bw wh B n w W gm cm gr cr L d mb t) {i : Nat} {s : Sl} (hs : L[i]? = some s) : W.cell? ⟨gr, i, none⟩ = some (pr s) ∧ Mq bw wh B W s.mb s.rb s.vk s.vv s.t := by
  obtain ⟨r2, c2, e2, hc2⟩ := ty_at (i := i) (u := pr s) h.rs (by simp [h.len]) (by simp [hs])
  cases e2
  exact ⟨hc2, (h.ma.ok i s hs).1⟩
theorem Gm.free {d mb : Nat} {t : T (Int × Int)} (h : Gm bw wh B n w W gm cm gr cr L d mb t) (k : Kp Nu W Z) (i : Nat) : Z.frozen? ⟨gr, i, none⟩ = false := by
  obtain ⟨c, hc⟩ := own_obj (own_kept h.rs k (fun _ _ e => e)) rfl
  exact free3 hc i
theorem Gm.fin {d mb rb : Nat} {t : T (Int × Int)} {W3 : World} {vk vv : Value} (h : Gm bw wh B n w W gm cm gr cr L d mb t) (hd : d < 3) (hsz : t.sz ≤ n) (hrb : W.heap.size = rb) (r : Rm rb W3 rb wh vk vv t.xs) (k : Kp Nu W W3) (hb : bw < B) :
    ∃ L', Gs bw wh B n w (W3.setCell ⟨gr, d, none⟩ (.pointer (some ⟨rb, 0, none⟩))) gm cm gr cr L' ∧ ∃ s', L'[d]? = some s' ∧ s'.mb = mb := by
  obtain ⟨W0, ma0, s1, s2, s3⟩ := h.nw
  have kk := Kp.setCell W3 ⟨gr, d, none⟩ (.pointer (some ⟨rb, 0, none⟩))
  have rs3 := own_kept h.rs k (fun _ _ e => e)
  have ms3 := own_kept h.ms k (fun _ _ e => e)
  have hP : ∀ g, g = gr → ∃ c ty p, W3.heap[g]? = some (.cells c ty p) ∧ ty ≠ 130 ∧ ty ≠ 52 ∧ ty ≠ 3 ∧ ty ≠ 136 := fun g e => own_kind rs3 (.inr rfl) g (by rw [e]; rfl)
  have hsz2 := k.size
  have hsz3 := kk.size
  have rl := lower (B := B) r (by omega)
  have hq : Mq bw wh B (W3.setCell ⟨gr, d, none⟩ (.pointer (some ⟨rb, 0, none⟩))) mb rb vk vv t := ⟨(h.mp.nu k).kind kk hP, rm_kind rl kk hP, hb, by omega⟩
  have ad := ((h.ma.nu k).kind kk hP).add (s := ⟨mb, rb, vk, vv, t⟩) ma0 ⟨hq, hsz, by show B ≤ mb; omega, by show B ≤ rb; omega⟩ s1 (by show W0.heap.size ≤ rb; omega) (fun g e => by
    rcases e with e | e
    · have := own_low r.ok e; omega
    · have := own_low r.ov e; omega)
  refine ⟨L.set d ⟨mb, rb, vk, vv, t⟩, ⟨ad.2 d, ?_, ?_, by rw [List.length_set]; exact h.len, (h.kp.andNu k).trans kk (fun g hg e => ?_), h.hB⟩, ⟨mb, rb, vk, vv, t⟩, List.getElem?_set_self (by rw [h.len]; exact hd), rfl⟩
  · rw [List.map_set]
    exact own_kept ms3 kk (fun g e e' => own_apart rs3 ms3 (by decide) g (by have e' : g = gr := e'; rw [e']; rfl) e)
  · rw [List.map_set]
    exact ty_set rs3 _
  · have e : g = gr := e
    have := ty_low rs3 (g := gr) rfl
    have := h.hB
    omega
end
/-- the rows in the making -/
structure Gf (bw : Nat) (wh : Int) (B : Nat) (w W : World) (va vb : Value) (n : Nat) (L : List Sl) : Prop where
  ma : Ma bw wh B 0 W L
  ms : W.ownsRow B 22 1 va n (L.map pm)
  rs : W.ownsRow B 48 1 vb n (L.map pr)
  len : L.length = n
  kp : Kp Nu w W
  hB : w.heap.size ≤ B
  bx : W.heap[bw]? = some (.cells #[.int .i64 wh] 3 (0, 0)) ∧ 0 ≤ wh ∧ wh ≤ 3
  hb : bw < B
  hW : B ≤ W.heap.size
section
variable {bw : Nat} {wh : Int} {B n : Nat} {w W : World} {va vb : Value} {L : List Sl}
/-- behind the first append -/
structure Gp (bw : Nat) (wh : Int) (B : Nat) (w W2 : World) (va vb : Value) (n : Nat) (L : List Sl) (mb : Nat) : Prop where
  ma : Ma bw wh B 0 W2 L
  ms : W2.ownsRow B 22 1 va (n + 1) (L.map pm ++ [.pointer (some ⟨mb, 0, none⟩)])
  rs : W2.ownsRow B 48 1 vb n (L.map pr)
  len : L.length = n
  kp : Kp Nu w W2
  hB : w.heap.size ≤ B
  bx : W2.heap[bw]? = some (.cells #[.int .i64 wh] 3 (0, 0)) ∧ 0 ≤ wh ∧ wh ≤ 3
  hb : bw < B
  mp : Mp bw wh W2 mb .nil
  nw : ∃ W0, Ma bw wh B 0 W0 L ∧ W0.heap.size ≤ mb ∧ W0.heap.size ≤ W2.heap.size ∧ B ≤ W0.heap.size
theorem Gf.first {W1 W2 : World} {va' : Value} {o : Obj} (h : Gf bw wh B w W va vb n L) {mb : Nat} (hmb : W.heap.size ≤ mb) (m : Mp bw wh W1 mb .nil) (k : Kp Nu W W1) (hg : (W1.alloc o).grownBy W2 va.ownBlock) (ho : W2.ownsRow B 22 1 va' (n + 1) (L.map pm ++ [.pointer (some ⟨mb, 0, none⟩)])) : Gp bw wh B w W2 va' vb n L mb := by
  have kA : Kp Nu W (W1.alloc o) := k.andNu (Kp.alloc W1 o Nu)
  have kg := Kp.of_grown hg
  have msA := own_kept h.ms kA (fun _ _ e => e)
  have rsA := own_kept h.rs kA (fun _ _ e => e)
  have hP : ∀ g, some g = va.ownBlock → ∃ c ty p, (W1.alloc o).heap[g]? = some (.cells c ty p) ∧ ty ≠ 130 ∧ ty ≠ 52 ∧ ty ≠ 3 ∧ ty ≠ 136 := fun g e => own_kind msA (.inl rfl) g e.symm
  refine ⟨(h.ma.nu kA).kind kg hP, ho, own_kept rsA kg (fun g e e' => own_apart msA rsA (by decide) g e'.symm e), h.len, (h.kp.andNu kA).trans kg (fun g hg e => ?_), h.hB, m.bx |> fun b => ((m.nu (Kp.alloc W1 o Nu)).kind kg hP).bx, h.hb, (m.nu (Kp.alloc W1 o Nu)).kind kg hP, W, h.ma, hmb, by have := kA.size; have := kg.size; omega, h.hW⟩
  have := ty_low msA e.symm
  have := h.hB
  omega
theorem Gp.ready {mb rb : Nat} (h : Gp bw wh B w W va vb n L mb) (hrb : W.heap.size = rb) : ((W.alloc (.cells #[.int .i64 wh, .slice none 0 0, .slice none 0 0] 52)).alloc (.cells #[.pointer (some ⟨rb, 0, none⟩)] 48)).ownsRow B 48 1 vb n (L.map pr) ∧ (∀ (j : Nat) u, [Value.pointer (some ⟨rb, 0, none⟩)][j]? = some u → ((W.alloc (.cells #[.int .i64 wh, .slice none 0 0, .slice none 0 0] 52)).alloc (.cells #[.pointer (some ⟨rb, 0, none⟩)] 48)).cell? ((⟨rb + 1, 0, none⟩ : Addr).add j) = some u) ∧ B ≤ ((W.alloc (.cells #[.int .i64 wh, .slice none 0 0, .slice none 0 0] 52)).alloc (.cells #[.pointer (some ⟨rb, 0, none⟩)] 48)).heap.size := by
  obtain ⟨W0, _, _, s2, s3⟩ := h.nw
  refine ⟨own_kept h.rs ((Kp.alloc W _ Nu).andNu (Kp.alloc _ _ Nu)) (fun _ _ e => e), ?_, by rw [World.size_alloc, World.size_alloc]; omega⟩
  have := cell_one_new (W.alloc (.cells #[.int .i64 wh, .slice none 0 0, .slice none 0 0] 52)) (.pointer (some ⟨rb, 0, none⟩)) 48
  rwa [World.size_alloc, hrb] at this
theorem Gp.second {W3 : World} {vb' : Value} {o : Obj} {mb rb : Nat} (h : Gp bw wh B w W va vb n L mb) (hrb : W.heap.size = rb) (hg : ((W.alloc (.cells #[.int .i64 wh, .slice none 0 0, .slice none 0 0] 52)).alloc o).grownBy W3 vb.ownBlock) (ho : W3.ownsRow B 48 1 vb' (n + 1) (L.map pr ++ [.pointer (some ⟨rb, 0, none⟩)])) : ∃ L', Gf bw wh B w W3 va vb' (n + 1) L' := by
  obtain ⟨W0, ma0, s1, s2, s3⟩ := h.nw
  have kA : Kp Nu W ((W.alloc (.cells #[.int .i64 wh, .slice none 0 0, .slice none 0 0] 52)).alloc o) := (Kp.alloc W _ Nu).andNu (Kp.alloc _ o Nu)
  have kg := Kp.of_grown hg
  have msA := own_kept h.ms kA (fun _ _ e => e)
  have rsA := own_kept h.rs kA (fun _ _ e => e)
  have hP : ∀ g, some g = vb.ownBlock → ∃ c ty p, ((W.alloc (.cells #[.int .i64 wh, .slice none 0 0, .slice none 0 0] 52)).alloc o).heap[g]? = some (.cells c ty p) ∧ ty ≠ 130 ∧ ty ≠ 52 ∧ ty ≠ 3 ∧ ty ≠ 136 := fun g e => own_kind rsA (.inr rfl) g e.symm
  have rA : Rm B ((W.alloc (.cells #[.int .i64 wh, .slice none 0 0, .slice none 0 0] 52)).alloc o) rb wh (.slice none 0 0) (.slice none 0 0) [] := ⟨by rw [← hrb]; exact new_at W _ (Kp.alloc _ o Nu), ⟨rfl, .inl ⟨rfl, rfl⟩⟩, ⟨rfl, .inl ⟨rfl, rfl⟩⟩, fun g e => by cases e⟩
  have z1 := kA.size
  have z2 := kg.size
  have hq : Mq bw wh B W3 mb rb (.slice none 0 0) (.slice none 0 0) .nil := ⟨(h.mp.nu kA).kind kg hP, rm_kind rA kg hP, h.hb, by omega⟩
  have ad := ((h.ma.nu kA).kind kg hP).add (s := ⟨mb, rb, .slice none 0 0, .slice none 0 0, .nil⟩) ma0 ⟨hq, Nat.le_refl _, by show B ≤ mb; omega, by show B ≤ rb; omega⟩ s1 (by show W0.heap.size ≤ rb; omega) (fun g e => by rcases e with e | e <;> cases e)
  refine ⟨L ++ [⟨mb, rb, .slice none 0 0, .slice none 0 0, .nil⟩], ad.1, ?_, ?_, by simp [h.len], (h.kp.andNu kA).trans kg (fun g hg e => ?_), h.hB, ((h.mp.nu kA).kind kg hP).bx, h.hb, by omega⟩
  · rw [List.map_append]
    exact own_kept msA kg (fun g e e' => own_apart rsA msA (by decide) g e'.symm e)
  · rw [List.map_append]
    exact ho
  · have := ty_low rsA e.symm
    have := h.hB
    omega
theorem Gf.done (h : Gf bw wh B w W va vb 3 L) : ∃ gm cm gr cr, va = .slice (some ⟨gm, 0, none⟩) 3 cm ∧ vb = .slice (some ⟨gr, 0, none⟩) 3 cr ∧ Gs bw wh B 0 w W gm cm gr cr L := by
  obtain ⟨s, hs⟩ : ∃ s, L[0]? = some s := ⟨_, List.getElem?_eq_getElem (by rw [h.len]; omega)⟩
  obtain ⟨r, c, e, _⟩ := ty_at (i := 0) (u := pm s) h.ms (by simp [h.len]) (by simp [hs])
  obtain ⟨r2, c2, e2, _⟩ := ty_at (i := 0) (u := pr s) h.rs (by simp [h.len]) (by simp [hs])
  subst e
  subst e2
  exact ⟨r, c, r2, c2, rfl, rfl, h.ma, h.ms, h.rs, h.len, h.kp, h.hB⟩
end
end Go.Proofs.Ytchealdgncgjoaa.StM
namespace Go.Proofs.Ytchealdgncgjoaa.StM
open Go.RowKit Go.Proofs.Ytchealdgncgjoaa.St Go.Shelf Go.Sort Go.Proofs.Ytchealdgncgjoaa.It Go.Proofs.Ytchealdgncgjoaa.StI
set_option linter.unusedVariables false
set_option linter.unusedSimpArgs false
/-- a step of the script -/
structure Op4 where
  kd : Int
  mm : Int
  k : Int
  v : Int
structure OpAt (w : World) (b o : Nat) (s : Op4) : Prop where
  c0 : w.cell? ⟨b, o, none⟩ = some (.int .i64 s.kd)
  c1 : w.cell? ⟨b, o + 1, none⟩ = some (.int .i64 s.mm)
  c2 : w.cell? ⟨b, o + 2, none⟩ = some (.int .i64 s.k)
  c3 : w.cell? ⟨b, o + 3, none⟩ = some (.int .i64 s.v)
  fit : s.k ≤ 9223372036854775807
def Wo (W : World) (v : Value) (S : List Op4) : Prop := ∃ ad cap, v = .slice ad S.length cap ∧ ∀ (i : Nat) (s : Op4), S[i]? = some s → ∃ b off, ad = some ⟨b, off, none⟩ ∧ OpAt W b (off + i * 4) s
theorem OpAt.nu {w w' : World} {b o : Nat} {s : Op4} (h : OpAt w b o s) (k : Kp Nu w w') : OpAt w' b o s := ⟨cell_nuI h.c0 k, cell_nuI h.c1 k, cell_nuI h.c2 k, cell_nuI h.c3 k, h.fit⟩
theorem info22s : (Try.prog.info? 22).map (fun i => (i.zero, i.size, i.bytes)) = some (some (.pointer none), 1, 8) := by kernel_rfl
theorem info48s : (Try.prog.info? 48).map (fun i => (i.zero, i.size, i.bytes)) = some (some (.pointer none), 1, 8) := by kernel_rfl
theorem small {a i N : Nat} (h1 : a ≤ i) (h2 : i < N) (h3 : N ≤ 4398046510976) : a ≤ 17592186044000 := by omega
theorem small2 {a i N : Nat} (h1 : a ≤ i) (h2 : i < N) (h3 : N ≤ 4398046510976) : a ≤ 4398046511104 := by omega
theorem small3 {a i N : Nat} (h1 : a ≤ N + i) (h2 : i ≤ 6) (h3 : N ≤ 4398046510976) : a ≤ 4398046511104 := by omega
theorem small4 {a i j : Nat} (h1 : a ≤ i + 2 * j) (h2 : j < 3) (h3 : i ≤ 4398046510976) : a ≤ 4398046511104 := by omega
theorem small5 {a i j : Nat} (h1 : a ≤ i + 2 * j + 1) (h2 : j < 3) (h3 : i ≤ 4398046510976) : a ≤ 4398046511104 := by omega
theorem two (i j : Nat) : i + 2 * j + 1 + 1 ≤ i + 2 * (j + 1) := by omega
theorem wi3 {n : Nat} (h : n < 3) : wrap64 ((n : Int) + 1) = (n : Int) + 1 ∧ IntKind.i64.wrap ((n : Int) + 1) = (n : Int) + 1 := ⟨by unfold wrap64; omega, by rw [IntKind.wrap_i64]; omega⟩
end Go.Proofs.Ytchealdgncgjoaa.StM
