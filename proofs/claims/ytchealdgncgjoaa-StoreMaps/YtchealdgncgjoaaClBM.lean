import Derived.Test.YtchealdgncgjoaaFiA
import Derived.Test.YtchealdgncgjoaaSgA
import Derived.Test.YtchealdgncgjoaaNwB
import Derived.BigQuiet
import Derived.Laws.MakeOwn
import Derived.Test.YtchealdgncgjoaaItFM
namespace Go.Proofs.Ytchealdgncgjoaa.StI
open Go.RowKit Go.Proofs.Ytchealdgncgjoaa.St Go.Shelf Go.Sort Go.Proofs.Ytchealdgncgjoaa.It
set_option linter.unusedVariables false
theorem Wi.nu {w w' : World} {v : Value} {S : List Int} (h : Wi w v S) (k : Kp Nu w w') : Wi w' v S := by
  obtain ⟨ad, cap, e, hc⟩ := h
  exact ⟨ad, cap, e, fun i s hi => by obtain ⟨b, off, e2, c⟩ := hc i s hi; exact ⟨b, off, e2, cell_nuI c k⟩⟩
theorem Cc.nu {X Z : World} (k : Kp Nu X Z) : Cc X Z := fun b c t m e => (k.block b (blk_lt e) (fun h => h)).trans e
theorem Cc.trans {X Y Z : World} (h : Cc X Y) (k : Cc Y Z) : Cc X Z := fun b c t m e => k b c t m (h b c t m e)
theorem Cc.own {X Z : World} (h : Cc X Z) {B n : Nat} {v : Value} {l : List Value} (ho : X.ownsRow B 3 1 v n l) : Z.ownsRow B 3 1 v n l :=
  own_keep ho (fun g hg => by obtain ⟨cur, hc⟩ := own_obj ho hg; rw [hc]; exact h _ _ _ _ hc)
theorem Cc.rm {X Z : World} (h : Cc X Z) {B rb : Nat} {wh : Int} {vk vv : Value} {xs : List (Int × Int)} (r : Rm B X rb wh vk vv xs) : Rm B Z rb wh vk vv xs :=
  ⟨h _ _ _ _ r.blk, h.own r.ok, h.own r.ov, r.apart⟩
theorem Cc.set {X V : World} (h : Cc X V) {b : Nat} (hb : X.heap.size ≤ b) (u : Value) : Cc X (V.setCell ⟨b, 0, none⟩ u) := fun k c t m e =>
  (Below.heap_setCell V ⟨b, 0, none⟩ u k (fun e2 => by have e2 : k = b := e2; have := blk_lt e; omega)).trans (h k c t m e)
theorem own_lower {w : World} {B B' n : Nat} (hB : B ≤ B') {v : Value} {l : List Value} (h : w.ownsRow B' 3 1 v n l) : w.ownsRow B 3 1 v n l := by
  refine ⟨h.1, ?_⟩
  rcases h.2 with ⟨rfl, h0⟩ | ⟨g, cap, cur, rfl, hb', hg, h1, h2, h3, h4⟩
  · exact .inl ⟨rfl, h0⟩
  · exact .inr ⟨g, cap, cur, rfl, Nat.le_trans hB hb', hg, h1, h2, h3, h4⟩
/-- what stands while StoreBetween goes through the range -/
structure Bw (X : World) (bs br bk bv mb rb B : Nat) (stop : Int) (t : T (Int × Int)) (vk vv vk0 vv0 : Value) (L : List (Int × Int)) : Prop where
  s : X.heap[bs]? = some (.cells #[.int .i64 stop] 3 (0, 0))
  r : X.heap[br]? = some (.cells #[.bool false] 4 (0, 0))
  k : X.heap[bk]? = some (.cells #[vk] 47 (0, 0))
  v : X.heap[bv]? = some (.cells #[vv] 47 (0, 0))
  m : Mp X mb t
  d : Rm B X rb 0 vk0 vv0 t.xs
  ok : X.ownsRow B 3 1 vk L.length (kv L)
  ov : X.ownsRow B 3 1 vv L.length (vvs L)
theorem Bw.cc {X Z : World} {bs br bk bv mb rb B : Nat} {stop : Int} {t : T (Int × Int)} {vk vv vk0 vv0 : Value} {L : List (Int × Int)} (h : Bw X bs br bk bv mb rb B stop t vk vv vk0 vv0 L) (c : Cc X Z) : Bw Z bs br bk bv mb rb B stop t vk vv vk0 vv0 L :=
  ⟨c _ _ _ _ h.s, c _ _ _ _ h.r, c _ _ _ _ h.k, c _ _ _ _ h.v, c.mp h.m, c.rm h.d, c.own h.ok, c.own h.ov⟩
theorem pre_at {pre L : List (Int × Int)} {x : Int × Int} (h : pre ++ [x] <+: L) : L[pre.length]? = some x ∧ pre.length < L.length := by
  obtain ⟨s, rfl⟩ := h
  simp
end Go.Proofs.Ytchealdgncgjoaa.StI
namespace Go.Proofs.Ytchealdgncgjoaa.StI
open Go.RowKit Go.Proofs.Ytchealdgncgjoaa.St Go.Shelf Go.Sort Go.Proofs.Ytchealdgncgjoaa.It
set_option linter.unusedVariables false
theorem kp_dn (w : World) (n : Nat) : Kp Nu w (w.drewN n) := ⟨rfl, rfl, rfl, Nat.le_refl _, fun _ _ _ => rfl⟩
theorem stp4 {k N : Nat} (h : k < N) : k + 1 ≤ N := by omega
theorem mea4 {k N : Nat} (h : k < N) : N - (intOf (.int .i64 ((k : Int) + 1))).toNat < N - (intOf (.int .i64 (k : Int))).toNat := by simp [intOf]; omega
theorem wk4 (k : Int) (h0 : 0 ≤ k) (h1 : k ≤ 17592186044000) : wrap64 (k + 1) = k + 1 := by unfold wrap64; omega
set_option maxRecDepth 100000 in
set_option maxHeartbeats 1000000 in
/-- sameInts of two rows that hold the same -/
theorem same44 (w : World) (v0 v1 : Value) (L : List Int) (h0 : Wi w v0 L) (h1 : Wi w v1 L) (hl : L.length ≤ 17592186044000) :
    Calls Try.prog 44 #[v0, v1] w fun e w' => e = .returned (.bool true) ∧ ∃ q, w' = w.drewN q := by
  have mixed : Try.prog.follows .mixedOrders = true := by kernel_rfl
  obtain ⟨ad0, cap0, rfl, hc0⟩ := h0
  obtain ⟨ad1, cap1, rfl, hc1⟩ := h1
  obtain ⟨N, eN⟩ : ∃ N, L.length = N := ⟨_, rfl⟩
  have HC := hide (And.intro hc0 (And.intro hc1 (And.intro eN hl)))
  rw [eN]
  have hne : ((N : Int) != (N : Int)) = false := by simp
  have hN2 : (N : Int) ≤ 17592186044000 := by omega
  clear hc0 hc1 eN hl
  go_enter Try.func44, Try.ntmps44
  go_wp2_with fail
  go_loopw [5] (fun i wr => ∃ k : Nat, i = .int .i64 (k : Int) ∧ k ≤ N ∧ ∃ q, wr = w.drewN q) (fun i _ => N - (intOf i).toNat)
  case atStart => exact ⟨0, rfl, Nat.zero_le _, 0, rfl⟩
  case round =>
    obtain ⟨k, rfl, hk, q, hq⟩ := hrel
    by_cases hlt : k < N
    · obtain ⟨s, hs⟩ : ∃ s, L[k]? = some s := ⟨_, List.getElem?_eq_getElem (by rw [HC.out.2.2.1]; exact hlt)⟩
      obtain ⟨b0, o0, e0, c0⟩ := HC.out.1 k s hs
      obtain ⟨b1, o1, e1, c1⟩ := HC.out.2.1 k s hs
      subst e0 e1
      replace c0 : wr.cell? ⟨b0, o0 + k, none⟩ = some (.int .i64 s) := by rw [hq]; exact c0
      replace c1 : wr.cell? ⟨b1, o1 + k, none⟩ = some (.int .i64 s) := by rw [hq]; exact c1
      have hltI : (k : Int) < (N : Int) := by omega
      have hk0 : (0 : Int) ≤ (k : Int) := by omega
      have hkB : (k : Int) ≤ 17592186044000 := by omega
      have hss : (s != s) = false := by simp
      have w1 := wk4 (k : Int) hk0 hkB
      have HK := hide (And.intro hlt hq)
      clear hs hk hlt hN2 hkB hq
      go_wp2_with fail
      go_quiet (fail)
      go_wp2_with fail
      rw [w1]
      refine ⟨⟨k + 1, by go_num, stp4 HK.out.1, q + nq, ?_⟩, mea4 HK.out.1⟩
      rw [HK.out.2]
      simp [World.drewN, Nat.add_comm, Nat.add_left_comm]
    · have hge : ¬ (k : Int) < (N : Int) := by omega
      have HQ := hide hq
      clear hq hk hlt
      go_wp2
      go_ret
      exact ⟨rfl, q, HQ.out⟩
end Go.Proofs.Ytchealdgncgjoaa.StI
namespace Go.Proofs.Ytchealdgncgjoaa.StI
open Go.RowKit Go.Proofs.Ytchealdgncgjoaa.St Go.Shelf Go.Sort Go.Proofs.Ytchealdgncgjoaa.It
attribute [local go_sem] Oper.semAt_some
set_option linter.unusedVariables false
theorem info3s : (Try.prog.info? 3).map (fun i => (i.zero, i.size, i.bytes)) = some (some (.int .i64 0), 1, 8) := by kernel_rfl
theorem box_other {X : World} {g : Nat} {u : Value} (b : Nat) (hb : b ≠ g) : (X.setCell ⟨g, 0, none⟩ u).heap[b]? = X.heap[b]? := Below.heap_setCell X ⟨g, 0, none⟩ u b hb
/-- where Collect stands -/
structure Cj (V : World) (B N b4 b5 gk gv : Nat) (pre : List (Int × Int)) : Prop where
  k : V.heap[b4]? = some (.cells #[.slice (some ⟨gk, 0, none⟩) pre.length N] 47 (0, 0))
  v : V.heap[b5]? = some (.cells #[.slice (some ⟨gv, 0, none⟩) pre.length N] 47 (0, 0))
  ok : V.ownsRow B 3 1 (.slice (some ⟨gk, 0, none⟩) pre.length N) pre.length (kv pre)
  ov : V.ownsRow B 3 1 (.slice (some ⟨gv, 0, none⟩) pre.length N) pre.length (vvs pre)
  ne : gk ≠ gv
  n4 : b4 ≠ b5
  l4 : B ≤ b4
  l5 : B ≤ b5
section
variable {V Z : World} {B N b4 b5 gk gv : Nat} {pre : List (Int × Int)} {L' : List Value}
theorem Cj.cc (h : Cj V B N b4 b5 gk gv pre) (c : Cc V Z) : Cj Z B N b4 b5 gk gv pre := ⟨c _ _ _ _ h.k, c _ _ _ _ h.v, c.own h.ok, c.own h.ov, h.ne, h.n4, h.l4, h.l5⟩
def Cs (b4 b5 gk gv : Nat) (j : Nat) : Prop := j = b4 ∨ j = b5 ∨ j = gk ∨ j = gv
theorem cs_cells (h : Cj V B N b4 b5 gk gv pre) {j : Nat} (hj : Cs b4 b5 gk gv j) : ∃ c ty, V.heap[j]? = some (.cells c ty (0, 0)) ∧ (ty = 47 ∨ ty = 3) := by
  rcases hj with rfl | rfl | rfl | rfl
  · exact ⟨_, _, h.k, .inl rfl⟩
  · exact ⟨_, _, h.v, .inl rfl⟩
  · obtain ⟨c, hc⟩ := own_obj h.ok rfl
    exact ⟨_, _, hc, .inr rfl⟩
  · obtain ⟨c, hc⟩ := own_obj h.ov rfl
    exact ⟨_, _, hc, .inr rfl⟩
/-- one pair more -/
theorem cj_step {x : Int × Int} {V2 V4 : World} (h : Cj V B N b4 b5 gk gv pre)
    (o2 : V2.ownsRow B 3 1 (.slice (some ⟨gk, 0, none⟩) (pre.length + 1) N) (pre.length + 1) (kv pre ++ [.int .i64 x.1])) (g2 : (V.alloc (.cells #[.int .i64 x.1] 3)).grownBy V2 (some gk))
    (o4 : V4.ownsRow B 3 1 (.slice (some ⟨gv, 0, none⟩) (pre.length + 1) N) (pre.length + 1) (vvs pre ++ [.int .i64 x.2])) (g4 : ((V2.setCell ⟨b4, 0, none⟩ (.slice (some ⟨gk, 0, none⟩) (pre.length + 1) N)).alloc (.cells #[.int .i64 x.2] 3)).grownBy V4 (some gv)) :
    Cj (V4.setCell ⟨b5, 0, none⟩ (.slice (some ⟨gv, 0, none⟩) (pre.length + 1) N)) B N b4 b5 gk gv (pre ++ [x]) ∧ Kp (Cs b4 b5 gk gv) V (V4.setCell ⟨b5, 0, none⟩ (.slice (some ⟨gv, 0, none⟩) (pre.length + 1) N)) := by
  obtain ⟨ck, hck⟩ := own_obj h.ok rfl
  obtain ⟨cv, hcv⟩ := own_obj h.ov rfl
  have n1 : b4 ≠ gk := fun e => by rw [← e, h.k] at hck; cases hck
  have n2 : b4 ≠ gv := fun e => by rw [← e, h.k] at hcv; cases hcv
  have n3 : b5 ≠ gk := fun e => by rw [← e, h.v] at hck; cases hck
  have n4 : b5 ≠ gv := fun e => by rw [← e, h.v] at hcv; cases hcv
  have ne := h.ne
  have n45 := h.n4
  have ka : Kp Nu V (V.alloc (.cells #[.int .i64 x.1] 3)) := Kp.alloc V _ Nu
  have kb : Kp (fun j => j = gk) V V2 := (ka.mono (fun _ _ e => e.elim)).trans (Kp.of_grown g2) (fun _ _ e => (Option.some.inj e))
  have kc : Kp (fun j => j = gk ∨ j = b4) V (V2.setCell ⟨b4, 0, none⟩ (.slice (some ⟨gk, 0, none⟩) (pre.length + 1) N)) := (kb.mono (fun _ _ e => .inl e)).trans (Kp.setCell V2 ⟨b4, 0, none⟩ _) (fun _ _ e => .inr e)
  obtain ⟨V3, eV3⟩ : ∃ V3, V2.setCell ⟨b4, 0, none⟩ (.slice (some ⟨gk, 0, none⟩) (pre.length + 1) N) = V3 := ⟨_, rfl⟩
  have y4 : V3.heap[b4]? = some (.cells #[.slice (some ⟨gk, 0, none⟩) (pre.length + 1) N] 47 (0, 0)) := by
    rw [← eV3, set3 ((kb.block _ (blk_lt h.k) n1).trans h.k)]; rfl
  have o3 : V3.ownsRow B 3 1 (.slice (some ⟨gk, 0, none⟩) (pre.length + 1) N) (pre.length + 1) (kv pre ++ [.int .i64 x.1]) := by
    rw [← eV3]
    exact own_keep o2 (fun q hq => box_other _ (fun e => by have : gk = q := Option.some.inj hq; omega))
  rw [eV3] at kc g4
  have kd : Kp (fun j => j = gv) V3 V4 := ((Kp.alloc V3 (.cells #[.int .i64 x.2] 3) Nu).mono (fun _ _ e => e.elim)).trans (Kp.of_grown g4) (fun _ _ e => (Option.some.inj e))
  have ke : Kp (fun j => j = gv ∨ j = b5) V3 (V4.setCell ⟨b5, 0, none⟩ (.slice (some ⟨gv, 0, none⟩) (pre.length + 1) N)) := (kd.mono (fun _ _ e => .inl e)).trans (Kp.setCell V4 ⟨b5, 0, none⟩ _) (fun _ _ e => .inr e)
  have y5 : V4.heap[b5]? = some (.cells #[.slice (some ⟨gv, 0, none⟩) pre.length N] 47 (0, 0)) := by
    have h1 := (kc.block _ (blk_lt h.v) (fun e => by rcases e with e | e <;> omega)).trans h.v
    exact (kd.block _ (blk_lt h1) n4).trans h1
  have hl : (pre ++ [x]).length = pre.length + 1 := by simp
  have ek : kv (pre ++ [x]) = kv pre ++ [.int .i64 x.1] := by simp [kv]
  have ev : vvs (pre ++ [x]) = vvs pre ++ [.int .i64 x.2] := by simp [vvs]
  refine ⟨⟨?_, ?_, ?_, ?_, ne, n45, h.l4, h.l5⟩, (kc.mono (fun _ _ e => ?_)).trans ke (fun _ _ e => ?_)⟩
  · rw [hl]
    exact (ke.block _ (blk_lt y4) (fun e => by rcases e with e | e <;> omega)).trans y4
  · rw [hl, set3 y5]; rfl
  · rw [hl, ek]
    exact own_keep o3 (fun q hq => ke.block q (own_lt o3 hq) (fun e => by have : gk = q := Option.some.inj hq; rcases e with e | e <;> omega))
  · rw [hl, ev]
    exact own_keep o4 (fun q hq => box_other _ (fun e => by have : gv = q := Option.some.inj hq; omega))
  · rcases e with e | e
    · exact .inr (.inr (.inl e))
    · exact .inl e
  · rcases e with e | e
    · exact .inr (.inr (.inr e))
    · exact .inr (.inl e)
/-- between the two appends -/
theorem cj_mid {x : Int × Int} {V2 : World} (h : Cj V B N b4 b5 gk gv pre) (g2 : (V.alloc (.cells #[.int .i64 x.1] 3)).grownBy V2 (some gk)) (u : Value) (o : Obj) :
    V2.heap[b4]? = some (.cells #[.slice (some ⟨gk, 0, none⟩) pre.length N] 47 (0, 0)) ∧ (V2.setCell ⟨b4, 0, none⟩ u).heap[b5]? = some (.cells #[.slice (some ⟨gv, 0, none⟩) pre.length N] 47 (0, 0)) ∧ ((V2.setCell ⟨b4, 0, none⟩ u).alloc o).ownsRow B 3 1 (.slice (some ⟨gv, 0, none⟩) pre.length N) pre.length (vvs pre) := by
  obtain ⟨ck, hck⟩ := own_obj h.ok rfl
  obtain ⟨cv, hcv⟩ := own_obj h.ov rfl
  have n1 : b4 ≠ gk := fun e => by rw [← e, h.k] at hck; cases hck
  have n2 : b4 ≠ gv := fun e => by rw [← e, h.k] at hcv; cases hcv
  have n3 : b5 ≠ gk := fun e => by rw [← e, h.v] at hck; cases hck
  have ne := h.ne
  have n45 := h.n4
  have kb : Kp (fun j => j = gk) V V2 := ((Kp.alloc V (.cells #[.int .i64 x.1] 3) Nu).mono (fun _ _ e => e.elim)).trans (Kp.of_grown g2) (fun _ _ e => (Option.some.inj e))
  have y4 := (kb.block _ (blk_lt h.k) n1).trans h.k
  have y5 := (kb.block _ (blk_lt h.v) n3).trans h.v
  refine ⟨y4, (box_other _ (fun e => n45 e.symm)).trans y5, ?_⟩
  have o2 := own_keep h.ov (fun q hq => kb.block q (own_lt h.ov hq) (fun e => by have : gv = q := Option.some.inj hq; have e : q = gk := e; omega))
  have o3 : (V2.setCell ⟨b4, 0, none⟩ u).ownsRow B 3 1 (.slice (some ⟨gv, 0, none⟩) pre.length N) pre.length (vvs pre) := own_keep o2 (fun q hq => box_other _ (fun e => by have : gv = q := Option.some.inj hq; omega))
  have k3 := Kp.alloc (V2.setCell ⟨b4, 0, none⟩ u) o Nu
  exact own_keep o3 (fun q hq => k3.block q (own_lt o3 hq) (fun h => h))
theorem cj_last {V3 V4 : World} {o : Obj} (h3 : V3.heap[b5]? = some (.cells #[.slice (some ⟨gv, 0, none⟩) pre.length N] 47 (0, 0))) (o4 : V4.ownsRow B 3 1 (.slice (some ⟨gv, 0, none⟩) (pre.length + 1) N) (pre.length + 1) L') (g4 : (V3.alloc o).grownBy V4 (some gv)) (hne : b5 ≠ gv) : V4.heap[b5]? = some (.cells #[.slice (some ⟨gv, 0, none⟩) pre.length N] 47 (0, 0)) := by
  have k1 := Kp.alloc V3 o Nu
  have h4 := (k1.block _ (blk_lt h3) (fun h => h)).trans h3
  exact ((Kp.of_grown g4).block _ (blk_lt h4) (fun e => hne (Option.some.inj e))).trans h4
theorem cj_ne (h : Cj V B N b4 b5 gk gv pre) : b5 ≠ gv := fun e => by
  obtain ⟨cv, hcv⟩ := own_obj h.ov rfl
  rw [← e, h.v] at hcv; cases hcv
theorem cj_mp {mb : Nat} {t : T (Int × Int)} (h : Cj V B N b4 b5 gk gv pre) (k : Kp (Cs b4 b5 gk gv) V Z) (hm : Mp V mb t) : Mp Z mb t := by
  obtain ⟨a, h1, h2⟩ := hm.ex
  have hn : ∀ (b : Nat) (c : Array Value) (ty : TypeId), V.heap[b]? = some (.cells c ty (0, 0)) → ty ≠ 47 → ty ≠ 3 → Z.heap[b]? = some (.cells c ty (0, 0)) := fun b c ty hb t1 t2 => (k.block b (blk_lt hb) (fun e => by
    obtain ⟨c', ty', hc, he⟩ := cs_cells h e
    rw [hb] at hc; cases hc
    rcases he with he | he
    · exact t1 he
    · exact t2 he)).trans hb
  exact ⟨⟨a, hn _ _ _ h1 (by decide) (by decide), h2.keep (fun b c hb => hn _ _ _ hb (by decide) (by decide))⟩, hm.bal, hm.srt⟩
theorem cj_post {w : World} {mb : Nat} {t : T (Int × Int)} (h : Cj V B N b4 b5 gk gv pre) (k : Kp (Cs b4 b5 gk gv) V Z) (hm : Mp V mb t) (hB : w.heap.size ≤ B) (hb : Below w.heap.size w V) (C : Nat) : KeepsFrom C V Z ∧ Kc (KM mb) V Z ∧ Below w.heap.size w Z := by
  refine ⟨kf_cells k (fun j hj => ?_), kc_cells k (fun j c ty m hj hc hK => ?_), ((Kp.of_below hb).trans k (fun j hj e => ?_)).toBelow⟩
  · obtain ⟨c, ty, h1, _⟩ := cs_cells h hj
    exact ⟨c, ty, _, h1⟩
  · obtain ⟨c', ty', h1, e⟩ := cs_cells h hj
    rw [hc] at h1; cases h1
    rcases hK with h | h | h | h | h
    · rcases e with e | e <;> rw [h] at e <;> cases e
    · rcases e with e | e <;> rw [h] at e <;> cases e
    · rcases e with e | e <;> rw [h] at e <;> cases e
    · rcases e with e | e <;> rw [h] at e <;> cases e
    · obtain ⟨a, h1, _⟩ := hm.ex
      rw [h, h1] at hc; cases hc
      rcases e with e | e <;> cases e
  · have l4 := h.l4
    have l5 := h.l5
    have l6 := own_low h.ok (g := gk) rfl
    have l7 := own_low h.ov (g := gv) rfl
    rcases e with e | e | e | e <;> omega
end
theorem unhidS {p : Prop} (h : Hid p) : p := h
theorem cell_one_new (w : World) (x : Value) (t : TypeId) : ∀ j u, [x][j]? = some u → (w.alloc (.cells #[x] t)).cell? ((⟨w.heap.size, 0, none⟩ : Addr).add j) = some u := fun j u hj => by
  cases j with
  | zero =>
    simp at hj
    subst hj
    exact cell1 (heap_alloc_new w _)
  | succ j => simp at hj
end Go.Proofs.Ytchealdgncgjoaa.StI
namespace Go.Proofs.Ytchealdgncgjoaa.StM
open Go.RowKit Go.Proofs.Ytchealdgncgjoaa.St Go.Shelf Go.Sort Go.Proofs.Ytchealdgncgjoaa.It Go.Proofs.Ytchealdgncgjoaa.StI
attribute [local go_sem] Oper.semAt_some
set_option linter.unusedVariables false
section
variable {V Z : World} {B N b4 b5 gk gv : Nat} {pre : List (Int × Int)} {L' : List Value}
theorem cc_mp {bw : Nat} {wh : Int} {X Z : World} (h : Cc X Z) {mb : Nat} {t : T (Int × Int)} (hm : Mp bw wh X mb t) : Mp bw wh Z mb t := by
  obtain ⟨a, h1, h2⟩ := hm.ex
  exact ⟨⟨a, h _ _ _ _ h1, h2.keep (fun b c e => h _ _ _ _ e)⟩, hm.bal, hm.srt, h _ _ _ _ hm.bx.1, hm.bx.2⟩
theorem cj_mp {bw : Nat} {wh : Int} {mb : Nat} {t : T (Int × Int)} (h : Cj V B N b4 b5 gk gv pre) (k : Kp (Cs b4 b5 gk gv) V Z) (hm : Mp bw wh V mb t) (hb : bw < B) : Mp bw wh Z mb t := by
  obtain ⟨a, h1, h2⟩ := hm.ex
  have hn : ∀ (b : Nat) (c : Array Value) (ty : TypeId), V.heap[b]? = some (.cells c ty (0, 0)) → ty ≠ 47 → ty ≠ 3 → Z.heap[b]? = some (.cells c ty (0, 0)) := fun b c ty hb t1 t2 => (k.block b (blk_lt hb) (fun e => by
    obtain ⟨c', ty', hc, he⟩ := cs_cells h e
    rw [hb] at hc; cases hc
    rcases he with he | he
    · exact t1 he
    · exact t2 he)).trans hb
  exact ⟨⟨a, hn _ _ _ h1 (by decide) (by decide), h2.keep (fun b c hb => hn _ _ _ hb (by decide) (by decide))⟩, hm.bal, hm.srt, (k.block _ (blk_lt hm.bx.1) (fun e => by
    have n4 := h.l4
    have n5 := h.l5
    have n6 := own_low h.ok (g := gk) rfl
    have n7 := own_low h.ov (g := gv) rfl
    rcases e with e | e | e | e <;> omega)).trans hm.bx.1, hm.bx.2⟩
theorem cj_post {bw : Nat} {wh : Int} {w : World} {mb : Nat} {t : T (Int × Int)} (h : Cj V B N b4 b5 gk gv pre) (k : Kp (Cs b4 b5 gk gv) V Z) (hm : Mp bw wh V mb t) (hB : w.heap.size ≤ B) (hb : Below w.heap.size w V) (C : Nat) : KeepsFrom C V Z ∧ Kc (KM mb) V Z ∧ Below w.heap.size w Z := by
  refine ⟨kf_cells k (fun j hj => ?_), kc_cells k (fun j c ty m hj hc hK => ?_), ((Kp.of_below hb).trans k (fun j hj e => ?_)).toBelow⟩
  · obtain ⟨c, ty, h1, _⟩ := cs_cells h hj
    exact ⟨c, ty, _, h1⟩
  · obtain ⟨c', ty', h1, e⟩ := cs_cells h hj
    rw [hc] at h1; cases h1
    rcases hK with h | h | h | h | h
    · rcases e with e | e <;> rw [h] at e <;> cases e
    · rcases e with e | e <;> rw [h] at e <;> cases e
    · rcases e with e | e <;> rw [h] at e <;> cases e
    · rcases e with e | e <;> rw [h] at e <;> cases e
    · obtain ⟨a, h1, _⟩ := hm.ex
      rw [h, h1] at hc; cases hc
      rcases e with e | e <;> cases e
  · have l4 := h.l4
    have l5 := h.l5
    have l6 := own_low h.ok (g := gk) rfl
    have l7 := own_low h.ov (g := gv) rfl
    rcases e with e | e | e | e <;> omega
end
end Go.Proofs.Ytchealdgncgjoaa.StM
