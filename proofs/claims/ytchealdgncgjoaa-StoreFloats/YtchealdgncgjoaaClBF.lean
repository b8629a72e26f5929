import Derived.Test.YtchealdgncgjoaaItDI
import Derived.Test.YtchealdgncgjoaaClB
namespace Go.Proofs.Ytchealdgncgjoaa.StF
open Go.RowKit Go.Proofs.Ytchealdgncgjoaa.St Go.Shelf Go.Sort Go.Proofs.Ytchealdgncgjoaa.It Go.Proofs.Ytchealdgncgjoaa.StI
attribute [local go_sem] Oper.semAt_some
set_option linter.unusedVariables false
theorem info59s : (Try.prog.info? 59).map (fun i => (i.zero, i.size, i.bytes)) = some (some (.float .f64 0), 1, 8) := by kernel_rfl
/-- the keys' words, the values -/
def kv (xs : List (FK × Int)) : List Value := xs.map (fun p => .float .f64 p.1.bits)
def vvs (xs : List (FK × Int)) : List Value := xs.map (fun p => .int .i64 p.2)
theorem own_low {V : World} {ty : TypeId} {B : Nat} {n : Nat} {l : List Value} {v : Value} (h : V.ownsRow B ty 1 v n l) {g : Nat} (hg : v.ownBlock = some g) : B ≤ g := by
  rcases h.2 with ⟨rfl, h0⟩ | ⟨g', cap, cur, rfl, hb', hg', _⟩
  · cases hg
  · simp [Value.ownBlock] at hg; subst hg; exact hb'
theorem cc_mp {X Z : World} (h : Cc X Z) {mb : Nat} {t : T (FK × Int)} (hm : Mp X mb t) : Mp Z mb t := by
  obtain ⟨a, h1, h2⟩ := hm.ex
  exact ⟨⟨a, h _ _ _ _ h1, h2.keep (fun b c e => h _ _ _ _ e)⟩, hm.bal, hm.srt⟩
theorem pre_at {pre L : List (FK × Int)} {x : FK × Int} (h : pre ++ [x] <+: L) : L[pre.length]? = some x ∧ pre.length < L.length := by
  obtain ⟨s, rfl⟩ := h
  simp
theorem cc_own {X Z : World} {ty : TypeId} (h : Cc X Z) {B n : Nat} {v : Value} {l : List Value} (ho : X.ownsRow B ty 1 v n l) : Z.ownsRow B ty 1 v n l :=
  own_keep ho (fun g hg => by obtain ⟨cur, hc⟩ := own_obj ho hg; rw [hc]; exact h _ _ _ _ hc)
set_option maxHeartbeats 400000 in
theorem all_any (w : World) (m : Option Addr) : Calls Try.prog 112 #[.pointer m] w fun e w' => e = .returned (.func (.func 162) #[] #[.pointer (some ⟨w.heap.size, 0, none⟩)]) ∧ w'.heap[w.heap.size]? = some (.cells #[.pointer m] 57 (0, 0)) ∧ Kp Nu w w' := by
  have HF := hide (And.intro (heap_alloc_new w (.cells #[.pointer m] 57)) (Kp.alloc w (.cells #[.pointer m] 57) Nu))
  go_enter Try.func112, Try.ntmps112
  go_wp2
  go_ret
  exact ⟨rfl, HF.out.1, HF.out.2⟩
/-- where Collect stands -/
structure Cj (V : World) (B N b4 b5 gk gv : Nat) (pre : List (FK × Int)) : Prop where
  k : V.heap[b4]? = some (.cells #[.slice (some ⟨gk, 0, none⟩) pre.length N] 64 (0, 0))
  v : V.heap[b5]? = some (.cells #[.slice (some ⟨gv, 0, none⟩) pre.length N] 47 (0, 0))
  ok : V.ownsRow B 59 1 (.slice (some ⟨gk, 0, none⟩) pre.length N) pre.length (kv pre)
  ov : V.ownsRow B 3 1 (.slice (some ⟨gv, 0, none⟩) pre.length N) pre.length (vvs pre)
  ne : gk ≠ gv
  n4 : b4 ≠ b5
  l4 : B ≤ b4
  l5 : B ≤ b5
section
variable {V Z : World} {B N b4 b5 gk gv : Nat} {pre : List (FK × Int)} {L' : List Value}
theorem Cj.cc (h : Cj V B N b4 b5 gk gv pre) (c : Cc V Z) : Cj Z B N b4 b5 gk gv pre := ⟨c _ _ _ _ h.k, c _ _ _ _ h.v, cc_own c h.ok, c.own h.ov, h.ne, h.n4, h.l4, h.l5⟩
def Cs (b4 b5 gk gv : Nat) (j : Nat) : Prop := j = b4 ∨ j = b5 ∨ j = gk ∨ j = gv
theorem cs_cells (h : Cj V B N b4 b5 gk gv pre) {j : Nat} (hj : Cs b4 b5 gk gv j) : ∃ c ty, V.heap[j]? = some (.cells c ty (0, 0)) ∧ (ty = 64 ∨ ty = 47 ∨ ty = 59 ∨ ty = 3) := by
  rcases hj with rfl | rfl | rfl | rfl
  · exact ⟨_, _, h.k, .inl rfl⟩
  · exact ⟨_, _, h.v, .inr (.inl rfl)⟩
  · obtain ⟨c, hc⟩ := own_obj h.ok rfl
    exact ⟨_, _, hc, .inr (.inr (.inl rfl))⟩
  · obtain ⟨c, hc⟩ := own_obj h.ov rfl
    exact ⟨_, _, hc, .inr (.inr (.inr rfl))⟩
/-- one pair more -/
theorem cj_step {x : FK × Int} {V2 V4 : World} (h : Cj V B N b4 b5 gk gv pre)
    (o2 : V2.ownsRow B 59 1 (.slice (some ⟨gk, 0, none⟩) (pre.length + 1) N) (pre.length + 1) (kv pre ++ [.float .f64 x.1.bits])) (g2 : (V.alloc (.cells #[.float .f64 x.1.bits] 59)).grownBy V2 (some gk))
    (o4 : V4.ownsRow B 3 1 (.slice (some ⟨gv, 0, none⟩) (pre.length + 1) N) (pre.length + 1) (vvs pre ++ [.int .i64 x.2])) (g4 : ((V2.setCell ⟨b4, 0, none⟩ (.slice (some ⟨gk, 0, none⟩) (pre.length + 1) N)).alloc (.cells #[.int .i64 x.2] 3)).grownBy V4 (some gv)) :
    Cj (V4.setCell ⟨b5, 0, none⟩ (.slice (some ⟨gv, 0, none⟩) (pre.length + 1) N)) B N b4 b5 gk gv (pre ++ [x]) ∧ Kp (Cs b4 b5 gk gv) V (V4.setCell ⟨b5, 0, none⟩ (.slice (some ⟨gv, 0, none⟩) (pre.length + 1) N)) := by
  obtain ⟨ck, hck⟩ := own_obj h.ok rfl
  obtain ⟨cv, hcv⟩ := own_obj h.ov rfl
  have n1 : b4 ≠ gk := fun e => by rw [← e, h.k] at hck; cases hck
  have n2 : b4 ≠ gv := fun e => by rw [← e, h.k] at hcv; cases hcv
  have n3 : b5 ≠ gk := fun e => by rw [← e, h.v] at hck; cases hck
  have n4 : b5 ≠ gv := fun e => by rw [← e, h.v] at hcv; cases hcv
  have ne := h.ne
  have n45 := h.n4
  have ka : Kp Nu V (V.alloc (.cells #[.float .f64 x.1.bits] 59)) := Kp.alloc V _ Nu
  have kb : Kp (fun j => j = gk) V V2 := (ka.mono (fun _ _ e => e.elim)).trans (Kp.of_grown g2) (fun _ _ e => (Option.some.inj e))
  have kc : Kp (fun j => j = gk ∨ j = b4) V (V2.setCell ⟨b4, 0, none⟩ (.slice (some ⟨gk, 0, none⟩) (pre.length + 1) N)) := (kb.mono (fun _ _ e => .inl e)).trans (Kp.setCell V2 ⟨b4, 0, none⟩ _) (fun _ _ e => .inr e)
  obtain ⟨V3, eV3⟩ : ∃ V3, V2.setCell ⟨b4, 0, none⟩ (.slice (some ⟨gk, 0, none⟩) (pre.length + 1) N) = V3 := ⟨_, rfl⟩
  have y4 : V3.heap[b4]? = some (.cells #[.slice (some ⟨gk, 0, none⟩) (pre.length + 1) N] 64 (0, 0)) := by
    rw [← eV3, set3 ((kb.block _ (blk_lt h.k) n1).trans h.k)]; rfl
  have o3 : V3.ownsRow B 59 1 (.slice (some ⟨gk, 0, none⟩) (pre.length + 1) N) (pre.length + 1) (kv pre ++ [.float .f64 x.1.bits]) := by
    rw [← eV3]
    exact own_keep o2 (fun q hq => box_other _ (fun e => by have : gk = q := Option.some.inj hq; omega))
  rw [eV3] at kc g4
  have kd : Kp (fun j => j = gv) V3 V4 := ((Kp.alloc V3 (.cells #[.int .i64 x.2] 3) Nu).mono (fun _ _ e => e.elim)).trans (Kp.of_grown g4) (fun _ _ e => (Option.some.inj e))
  have ke : Kp (fun j => j = gv ∨ j = b5) V3 (V4.setCell ⟨b5, 0, none⟩ (.slice (some ⟨gv, 0, none⟩) (pre.length + 1) N)) := (kd.mono (fun _ _ e => .inl e)).trans (Kp.setCell V4 ⟨b5, 0, none⟩ _) (fun _ _ e => .inr e)
  have y5 : V4.heap[b5]? = some (.cells #[.slice (some ⟨gv, 0, none⟩) pre.length N] 47 (0, 0)) := by
    have h1 := (kc.block _ (blk_lt h.v) (fun e => by rcases e with e | e <;> omega)).trans h.v
    exact (kd.block _ (blk_lt h1) n4).trans h1
  have hl : (pre ++ [x]).length = pre.length + 1 := by simp
  have ek : kv (pre ++ [x]) = kv pre ++ [.float .f64 x.1.bits] := by simp [kv]
  have ev : vvs (pre ++ [x]) = vvs pre ++ [.int .i64 x.2] := by simp [vvs]
  refine ⟨⟨?_, ?_, ?_, ?_, ne, n45, h.l4, h.l5⟩, (kc.mono (fun _ _ e => ?_)).trans ke (fun _ _ e => ?_)⟩
  · rw [hl]
    exact (ke.block _ (blk_lt y4) (fun e => by rcases e with e | e <;> omega)).trans y4
  · rw [hl, set3 y5]; rfl
  · rw [hl, ek]
    exact own_keep o3 (fun q hq => ke.block q (own_lt o3 hq) (fun e => by have : gk = q := Option.some.inj hq; rcases e with e | e <;> omega))
  · rw [hl, ev]
    exact own_keep o4 (fun q hq => box_other _ (fun e => by have : gv = q := Option.some.inj hq; omega))
  · rcases e with e | e
    · exact .inr (.inr (.inl e))
    · exact .inl e
  · rcases e with e | e
    · exact .inr (.inr (.inr e))
    · exact .inr (.inl e)
/-- between the two appends -/
theorem cj_mid {x : FK × Int} {V2 : World} (h : Cj V B N b4 b5 gk gv pre) (g2 : (V.alloc (.cells #[.float .f64 x.1.bits] 59)).grownBy V2 (some gk)) (u : Value) (o : Obj) :
    V2.heap[b4]? = some (.cells #[.slice (some ⟨gk, 0, none⟩) pre.length N] 64 (0, 0)) ∧ (V2.setCell ⟨b4, 0, none⟩ u).heap[b5]? = some (.cells #[.slice (some ⟨gv, 0, none⟩) pre.length N] 47 (0, 0)) ∧ ((V2.setCell ⟨b4, 0, none⟩ u).alloc o).ownsRow B 3 1 (.slice (some ⟨gv, 0, none⟩) pre.length N) pre.length (vvs pre) := by
  obtain ⟨ck, hck⟩ := own_obj h.ok rfl
  obtain ⟨cv, hcv⟩ := own_obj h.ov rfl
  have n1 : b4 ≠ gk := fun e => by rw [← e, h.k] at hck; cases hck
  have n2 : b4 ≠ gv := fun e => by rw [← e, h.k] at hcv; cases hcv
  have n3 : b5 ≠ gk := fun e => by rw [← e, h.v] at hck; cases hck
  have ne := h.ne
  have n45 := h.n4
  have kb : Kp (fun j => j = gk) V V2 := ((Kp.alloc V (.cells #[.float .f64 x.1.bits] 59) Nu).mono (fun _ _ e => e.elim)).trans (Kp.of_grown g2) (fun _ _ e => (Option.some.inj e))
  have y4 := (kb.block _ (blk_lt h.k) n1).trans h.k
  have y5 := (kb.block _ (blk_lt h.v) n3).trans h.v
  refine ⟨y4, (box_other _ (fun e => n45 e.symm)).trans y5, ?_⟩
  have o2 := own_keep h.ov (fun q hq => kb.block q (own_lt h.ov hq) (fun e => by have : gv = q := Option.some.inj hq; have e : q = gk := e; omega))
  have o3 : (V2.setCell ⟨b4, 0, none⟩ u).ownsRow B 3 1 (.slice (some ⟨gv, 0, none⟩) pre.length N) pre.length (vvs pre) := own_keep o2 (fun q hq => box_other _ (fun e => by have : gv = q := Option.some.inj hq; omega))
  have k3 := Kp.alloc (V2.setCell ⟨b4, 0, none⟩ u) o Nu
  exact own_keep o3 (fun q hq => k3.block q (own_lt o3 hq) (fun h => h))
theorem cj_last {V3 V4 : World} {o : Obj} (h3 : V3.heap[b5]? = some (.cells #[.slice (some ⟨gv, 0, none⟩) pre.length N] 47 (0, 0))) (o4 : V4.ownsRow B 3 1 (.slice (some ⟨gv, 0, none⟩) (pre.length + 1) N) (pre.length + 1) L') (g4 : (V3.alloc o).grownBy V4 (some gv)) (hne : b5 ≠ gv) : V4.heap[b5]? = some (.cells #[.slice (some ⟨gv, 0, none⟩) pre.length N] 47 (0, 0)) := by
  have k1 := Kp.alloc V3 o Nu
  have h4 := (k1.block _ (blk_lt h3) (fun h => h)).trans h3
  exact ((Kp.of_grown g4).block _ (blk_lt h4) (fun e => hne (Option.some.inj e))).trans h4
theorem cj_ne (h : Cj V B N b4 b5 gk gv pre) : b5 ≠ gv := fun e => by
  obtain ⟨cv, hcv⟩ := own_obj h.ov rfl
  rw [← e, h.v] at hcv; cases hcv
theorem cj_mp {mb : Nat} {t : T (FK × Int)} (h : Cj V B N b4 b5 gk gv pre) (k : Kp (Cs b4 b5 gk gv) V Z) (hm : Mp V mb t) : Mp Z mb t := by
  obtain ⟨a, h1, h2⟩ := hm.ex
  have hn : ∀ (b : Nat) (c : Array Value) (ty : TypeId), V.heap[b]? = some (.cells c ty (0, 0)) → ty ≠ 64 → ty ≠ 47 → ty ≠ 59 → ty ≠ 3 → Z.heap[b]? = some (.cells c ty (0, 0)) := fun b c ty hb t1 t2 t3 t4 => (k.block b (blk_lt hb) (fun e => by
    obtain ⟨c', ty', hc, he⟩ := cs_cells h e
    rw [hb] at hc; cases hc
    rcases he with he | he | he | he
    · exact t1 he
    · exact t2 he
    · exact t3 he
    · exact t4 he)).trans hb
  exact ⟨⟨a, hn _ _ _ h1 (by decide) (by decide) (by decide) (by decide), h2.keep (fun b c hb => hn _ _ _ hb (by decide) (by decide) (by decide) (by decide))⟩, hm.bal, hm.srt⟩
theorem cj_post {w : World} {mb : Nat} {t : T (FK × Int)} (h : Cj V B N b4 b5 gk gv pre) (k : Kp (Cs b4 b5 gk gv) V Z) (hm : Mp V mb t) (hB : w.heap.size ≤ B) (hb : Below w.heap.size w V) (C : Nat) : KeepsFrom C V Z ∧ Kc (KM mb) V Z ∧ Below w.heap.size w Z := by
  refine ⟨kf_cells k (fun j hj => ?_), kc_cells k (fun j c ty m hj hc hK => ?_), ((Kp.of_below hb).trans k (fun j hj e => ?_)).toBelow⟩
  · obtain ⟨c, ty, h1, _⟩ := cs_cells h hj
    exact ⟨c, ty, _, h1⟩
  · obtain ⟨c', ty', h1, e⟩ := cs_cells h hj
    rw [hc] at h1; cases h1
    rcases hK with h | h | h | h | h
    · rcases e with e | e | e | e <;> rw [h] at e <;> cases e
    · rcases e with e | e | e | e <;> rw [h] at e <;> cases e
    · rcases e with e | e | e | e <;> rw [h] at e <;> cases e
    · rcases e with e | e | e | e <;> rw [h] at e <;> cases e
    · obtain ⟨a, h1, _⟩ := hm.ex
      rw [h, h1] at hc; cases hc
      rcases e with e | e | e | e <;> cases e
  · have l4 := h.l4
    have l5 := h.l5
    have l6 := own_low h.ok (g := gk) rfl
    have l7 := own_low h.ov (g := gv) rfl
    rcases e with e | e | e | e <;> omega
end
end Go.Proofs.Ytchealdgncgjoaa.StF
