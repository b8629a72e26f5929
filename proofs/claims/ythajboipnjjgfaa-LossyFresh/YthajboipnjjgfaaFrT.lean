import Derived.Test.YthajboipnjjgfaaFrL
namespace Go.Proofs.Ythajboipnjjgfaa.Ly
open Go.RowKit Go.Maps
set_option linter.unusedVariables false

/-- the network, the book, and slices that were handed out and are not written over yet -/
structure Fx (B : Nat) (w : World) (b bm : Nat) (v : Value) (c : Ct) (L : List Gm) (vb : Value) (H : List Hh) (P : List Gm) : Prop where
  nt : Nt B w b bm 0 4096 (.map []) v c L
  bq : Bq w B vb H
  ap : ∀ g ∈ L, ∀ q, g.d.ownBlock = some q → Off H q
  dat : ∀ g ∈ P, Dg w B g
  apt : Apt P
  pl : ∀ g ∈ P, ∀ q, g.d.ownBlock = some q → Off H q ∧ ∀ x ∈ L, x.d.ownBlock ≠ some q
/-- a block of bytes, or of the book's row -/
def Bt (w : World) (i : Nat) : Prop := ∃ (cur : Array Value) (t : TypeId), (t = 5 ∨ t = 47) ∧ w.heap[i]? = some (.cells cur t (0, 0))

section
variable {B b bm : Nat} {w w' : World} {v v' : Value} {c c' : Ct} {L L' : List Gm} {vb : Value} {H : List Hh} {P : List Gm}

theorem own_bt {B' n : Nat} {u : Value} {xs : List Value} (h : w.ownsRow B' 38 3 u n xs) (k : Kp (Bt w) w w') : w'.ownsRow B' 38 3 u n xs :=
  own_keep h (fun g hg => k.block g (own_lt h hg) (fun ⟨cur, t, ht, hc⟩ => by
    obtain ⟨c0, h0⟩ := own_obj h hg
    rw [h0] at hc
    cases hc
    simp at ht))
theorem Bq.fp {nb : Nat} {room : Int} {D : DataW Unit} (h : Bq w B vb H) (n : Nt B w b bm nb room D v c L) (k : Kp (fp b bm v) w w') : Bq w' B vb H := by
  refine h.keep k (fun i hi s => ⟨fun e => ?_, fun e he x hx hg => ?_⟩)
  · obtain ⟨c0, h0⟩ := own_obj h.own e
    rcases s with rfl | rfl | s
    · rw [n.blk] at h0; cases h0
    · obtain ⟨es, clock, hb⟩ := map_obj n.map
      rw [hb] at h0; cases h0
    · obtain ⟨c1, h1⟩ := own_obj n.own s.symm
      rw [h1] at h0; cases h0
  · obtain ⟨_, cur, hc⟩ := (h.all e he).lt hx hg
    exact n.byte hc s
theorem Fx.low (h : Fx B w b bm v c L vb H P) : B ≤ w.heap.size := by
  have h1 := h.nt.hb
  have h2 := blk_lt h.nt.blk
  omega
theorem Fx.nu (h : Fx B w b bm v c L vb H P) (k : Kp Nu w w') : Fx B w' b bm v c L vb H P :=
  ⟨h.nt.nu k, h.bq.nu k, h.ap, fun g hg => (h.dat g hg).nu k, h.apt, h.pl⟩
theorem Fx.start (h : Nt B w b bm 0 4096 (.map []) v c []) : Fx B w b bm v c [] (.slice none 0 0) [] [] :=
  ⟨h, ⟨by simpa [hcs] using World.ownsRow_nil w _ _ _, by simp⟩, by simp, by simp, List.Pairwise.nil, by simp⟩
/-- a call on the network that takes in nothing -/
theorem Fx.net (h : Fx B w b bm v c L vb H P) (hN : Nt B w' b bm 0 4096 (.map []) v' c' L') (hF : Fr b bm v w w' v') (hs : ∀ g ∈ L', g ∈ L) : Fx B w' b bm v' c' L' vb H P :=
  ⟨hN, h.bq.fp h.nt hF.kp, fun g hg => h.ap g (hs g hg), fun g hg => (h.dat g hg).keep (fun i cur hi => hF.kp.block i (blk_lt hi) (h.nt.byte hi)), h.apt, fun g hg q hq => ⟨(h.pl g hg q hq).1, fun x hx => (h.pl g hg q hq).2 x (hs x hx)⟩⟩
/-- a call that takes one in -/
theorem Fx.send {g : Gm} (h : Fx B w b bm v c L vb H P) (hN : Nt B w' b bm 0 4096 (.map []) v' c' (L ++ [g])) (hF : Fr b bm v w w' v') (hq : ∀ q, g.d.ownBlock = some q → w.heap.size ≤ q) : Fx B w' b bm v' c' (L ++ [g]) vb H P := by
  refine ⟨hN, h.bq.fp h.nt hF.kp, fun x hx q hxq => ?_, fun g hg => (h.dat g hg).keep (fun i cur hi => hF.kp.block i (blk_lt hi) (h.nt.byte hi)), h.apt, fun x hx q hxq => ⟨(h.pl x hx q hxq).1, fun y hy e => ?_⟩⟩
  · rcases List.mem_append.1 hx with hx | hx
    · exact h.ap x hx q hxq
    · simp only [List.mem_singleton] at hx
      subst hx
      exact h.bq.off_new (hq q hxq)
  · rcases List.mem_append.1 hy with hy | hy
    · exact (h.pl x hx q hxq).2 y hy e
    · simp only [List.mem_singleton] at hy
      subst hy
      have h1 := hq q e
      have h2 := own_lt (h.dat x hx).own hxq
      omega
theorem Dg.base {N : Nat} {g : Gm} (h : Dg w N g) (hb : B ≤ N) : Dg w B g := ⟨own_base h.own hb, h.pos, h.le, h.f0, h.f1, h.t0, h.t1⟩
/-- new slices were handed out -/
theorem Fx.tell {N : Nat} {Q : List Gm} (h : Fx B w b bm v c L vb H P) (h' : Fx B w' b bm v' c' L' vb H P) (hs : ∀ g ∈ L', g ∈ L) (hQ : ∀ g ∈ Q, Dg w' N g) (hN : w.heap.size ≤ N) (hA : Apt Q) : Fx B w' b bm v' c' L' vb H (P ++ Q) := by
  have hge : ∀ g ∈ Q, ∀ q, g.d.ownBlock = some q → w.heap.size ≤ q := fun g hg q hq => Nat.le_trans hN ((hQ g hg).own.lt q hq).1
  refine ⟨h'.nt, h'.bq, h'.ap, fun g hg => ?_, ?_, fun g hg q hq => ?_⟩
  · rcases List.mem_append.1 hg with hg | hg
    · exact h'.dat g hg
    · exact (hQ g hg).base (Nat.le_trans h.low hN)
  · refine List.pairwise_append.2 ⟨h.apt, hA, ?_⟩
    intro x hx y hy q hq e
    have h1 := own_lt (h.dat x hx).own hq
    have h2 := hge y hy q e
    omega
  · rcases List.mem_append.1 hg with hg | hg
    · exact h'.pl g hg q hq
    · refine ⟨h.bq.off_new (hge g hg q hq), fun x hx e => ?_⟩
      have h1 := own_lt (h.nt.dat x (hs x hx)).own e
      have h2 := hge g hg q hq
      omega
/-- the first of these is written over -/
theorem Fx.turn {g : Gm} {gb : Nat} (h : Fx B w b bm v c L vb H (g :: P)) (hd : g.d.ownBlock = some gb) (k : Kp (fun i => i = gb) w w') : Fx B w' b bm v c L vb H P := by
  obtain ⟨cur, hc⟩ := own_obj (h.dat g (by simp)).own hd
  have hp := h.pl g (by simp) gb hd
  refine ⟨h.nt.held (Bh := 0) k hc hp.2, h.bq.held k hc hp.1, h.ap, fun x hx => ?_, (List.pairwise_cons.1 h.apt).2, fun x hx => h.pl x (by simp [hx])⟩
  have hD := h.dat x (by simp [hx])
  exact ⟨own_keep hD.own (fun i hi => k.block i (own_lt hD.own hi) (fun e => (List.pairwise_cons.1 h.apt).1 x hx gb hd (by rw [← e]; exact hi))), hD.pos, hD.le, hD.f0, hD.f1, hD.t0, hD.t1⟩
/-- one more entry in the book -/
theorem Fx.push {e : Hh} {vb' : Value} (h : Fx B w b bm v c L vb H P) (he : Hm w B e) (ho : w'.ownsRow B 47 6 vb' (H.length + 1) (hcs H ++ e.cells)) (hg : w.grownBy w' vb.ownBlock) (ha : ∀ x ∈ e.vals, ∀ q, x.ownBlock = some q → (∀ g ∈ L, g.d.ownBlock ≠ some q) ∧ ∀ g ∈ P, g.d.ownBlock ≠ some q) : Fx B w' b bm v c L vb' (H ++ [e]) P := by
  have k : Kp (fun i => some i = vb.ownBlock) w w' := Kp.of_grown hg
  have obj : ∀ i, some i = vb.ownBlock → ∃ c0, w.heap[i]? = some (.cells c0 47 (0, 0)) := fun i e => own_obj h.bq.own e.symm
  have nb : ∀ (x : Gm), Dg w B x → ∀ i, some i = vb.ownBlock → x.d.ownBlock ≠ some i := fun x hx i e e2 => by
    obtain ⟨c0, h0⟩ := obj i e
    obtain ⟨c1, h1⟩ := own_obj hx.own e2
    rw [h1] at h0
    cases h0
  have off : ∀ q, Off H q → (∀ x ∈ e.vals, x.ownBlock ≠ some q) → Off (H ++ [e]) q := fun q h1 h2 x hx y hy => by
    rcases List.mem_append.1 hx with hx | hx
    · exact h1 x hx y hy
    · simp only [List.mem_singleton] at hx
      subst hx
      exact h2 y hy
  refine ⟨h.nt.keepX k (fun i hi s => ⟨fun f => ?_, fun g hg => nb g (h.nt.dat g hg) i s⟩), h.bq.push he ho hg, fun g hg q hq => ?_, fun x hx => ?_, h.apt, fun g hg q hq => ⟨?_, (h.pl g hg q hq).2⟩⟩
  · obtain ⟨c0, h0⟩ := obj i s
    rcases f with rfl | rfl | f
    · rw [h.nt.blk] at h0; cases h0
    · obtain ⟨es, clock, hb⟩ := map_obj h.nt.map
      rw [hb] at h0; cases h0
    · obtain ⟨c1, h1⟩ := own_obj h.nt.own f.symm
      rw [h1] at h0; cases h0
  · exact off q (h.ap g hg q hq) (fun x hx e2 => (ha x hx q e2).1 g hg hq)
  · have hD := h.dat x hx
    exact ⟨own_keep hD.own (fun i hi => k.block i (own_lt hD.own hi) (fun e2 => nb x hD i e2 hi)), hD.pos, hD.le, hD.f0, hD.f1, hD.t0, hD.t1⟩
  · exact off q (h.pl g hg q hq).1 (fun x hx e2 => (ha x hx q e2).2 g hg hq)
/-- a slice is written over, appended to, and put into the book -/
theorem Fx.hold {w1 w2 w3 : World} {g : Gm} {gb n cap : Nat} {g1 g2 g3 g9 vb' : Value} {m : Int} (h : Fx B w b bm v c L vb H (g :: P)) (hd : g.d = .slice (some ⟨gb, 0, none⟩) n cap) (hm : Hm w1 B ⟨.slice (some ⟨gb, 0, none⟩) n cap, g1, g2, g3, g9, n, m⟩) (k : Kp (fun i => i = gb) w w1) (hl : ∀ x ∈ [g1, g2, g3, g9], ∀ q, x.ownBlock = some q → q = gb ∨ w.heap.size ≤ q)
    (k2 : Kp Nu w1 w2) (ho : w3.ownsRow B 47 6 vb' (H.length + 1) (hcs H ++ [.slice (some ⟨gb, 0, none⟩) n cap, g1, g2, g3, g9, .int .u8 m])) (hg : w2.grownBy w3 vb.ownBlock) :
    Fx B w3 b bm v c L vb' (H ++ [⟨.slice (some ⟨gb, 0, none⟩) n cap, g1, g2, g3, g9, n, m⟩]) P ∧ Kp (Bt w) w w3 ∧ Kp (fun i => B ≤ i) w w3 := by
  have hdb : g.d.ownBlock = some gb := by rw [hd]; rfl
  have h2 : Fx B w2 b bm v c L vb H P := (h.turn hdb k).nu k2
  have kk : Kp (fun i => i = gb ∨ some i = vb.ownBlock) w w3 := ((k.mono (fun i _ e => .inl e)).andNu k2).trans (Kp.of_grown hg) (fun i _ e => .inr e)
  refine ⟨h2.push (hm.nu k2) ho hg ?_, kk.mono (fun i hi e => ?_), kk.mono (fun i hi e => ?_)⟩
  · have lie : ∀ x ∈ (⟨.slice (some ⟨gb, 0, none⟩) n cap, g1, g2, g3, g9, n, m⟩ : Hh).vals, ∀ q, x.ownBlock = some q → q = gb ∨ w.heap.size ≤ q := fun x hx q hq => by
      rcases List.mem_cons.1 hx with rfl | hx
      · left; cases hq; rfl
      · exact hl x hx q hq
    intro x hx q hq
    refine ⟨fun y hy e => ?_, fun y hy e => ?_⟩
    · rcases lie x hx q hq with rfl | h1
      · exact (h.pl g (by simp) q hdb).2 y hy e
      · have := own_lt (h.nt.dat y hy).own e
        omega
    · rcases lie x hx q hq with rfl | h1
      · exact (List.pairwise_cons.1 h.apt).1 y hy q hdb e
      · have := own_lt (h.dat y (by simp [hy])).own e
        omega
  · rcases e with rfl | e
    · obtain ⟨cur, hc⟩ := own_obj (h.dat g (by simp)).own hdb
      exact ⟨cur, 5, .inl rfl, hc⟩
    · obtain ⟨cur, hc⟩ := own_obj h.bq.own e.symm
      exact ⟨cur, 47, .inr rfl, hc⟩
  · rcases e with rfl | e
    · exact ((h.dat g (by simp)).own.lt i hdb).1
    · exact (h.bq.own.lt i e.symm).1
/-- the row of a told list turns -/
theorem Fx.row {r : Nat} {cur : Array Value} (h : Fx B w b bm v c L vb H P) (k : Kp (fun i => i = r) w w') (hr : w.heap[r]? = some (.cells cur 38 (0, 0))) (hv : v.ownBlock ≠ some r) : Fx B w' b bm v c L vb H P := by
  have nb : ∀ (x : Gm), Dg w B x → x.d.ownBlock ≠ some r := fun x hx e2 => by
    obtain ⟨c1, h1⟩ := own_obj hx.own e2
    rw [h1] at hr
    cases hr
  refine ⟨h.nt.keepX k (fun i hi e => ?_), h.bq.keep k (fun i hi e => ?_), h.ap, fun x hx => ?_, h.apt, h.pl⟩
  · subst e
    refine ⟨fun f => ?_, fun g hg => nb g (h.nt.dat g hg)⟩
    rcases f with rfl | rfl | f
    · rw [h.nt.blk] at hr; cases hr
    · obtain ⟨es, clock, hb⟩ := map_obj h.nt.map
      rw [hb] at hr; cases hr
    · exact hv f.symm
  · subst e
    refine ⟨fun e => ?_, fun e he x hx hg => ?_⟩
    · obtain ⟨c1, h1⟩ := own_obj h.bq.own e
      rw [h1] at hr; cases hr
    · obtain ⟨_, c1, h1⟩ := (h.bq.all e he).lt hx hg
      rw [h1] at hr; cases hr
  · have hD := h.dat x hx
    exact ⟨own_keep hD.own (fun i hi => k.block i (own_lt hD.own hi) (fun e => nb x hD (by rw [← e]; exact hi))), hD.pos, hD.le, hD.f0, hD.f1, hD.t0, hD.t1⟩
end
end Go.Proofs.Ythajboipnjjgfaa.Ly
namespace Go.Proofs.Ythajboipnjjgfaa.Ly
open Go.RowKit Go.Maps
set_option linter.unusedVariables false

/-- a list of byte strings that came in -/
def Dts (W : World) (v : Value) (S : List (Value × List Int)) : Prop :=
  ((∃ ad cap, v = .slice ad 0 cap) ∧ S = []) ∨ ∃ b off cap, v = .slice (some ⟨b, off, none⟩) S.length cap ∧ ∀ i s, S[i]? = some s → W.cell? ⟨b, off + i, none⟩ = some s.1 ∧ Rd W s.1 s.2
theorem Dts.slice {w : World} {v : Value} {S : List (Value × List Int)} (h : Dts w v S) : ∃ ad cap, v = .slice ad S.length cap := by
  rcases h with ⟨⟨ad, cap, rfl⟩, rfl⟩ | ⟨b, off, cap, rfl, _⟩
  · exact ⟨ad, cap, rfl⟩
  · exact ⟨_, cap, rfl⟩
theorem Dts.at {w w' : World} {v : Value} {S : List (Value × List Int)} (h : Dts w v S) (k : Kp Nu w w') {i : Nat} {s : Value × List Int} (hs : S[i]? = some s) : ∃ b off cap, v = .slice (some ⟨b, off, none⟩) S.length cap ∧ w'.cell? ⟨b, off + i, none⟩ = some s.1 ∧ Rd w' s.1 s.2 := by
  rcases h with ⟨_, rfl⟩ | ⟨b, off, cap, rfl, hc⟩
  · simp at hs
  · obtain ⟨h1, h2⟩ := hc i s hs
    exact ⟨b, off, cap, rfl, cell_below h1 (Nat.le_refl _) k.toBelow, h2.nu k⟩

/-- what is sent of the i-th one -/
def pk (S : List (Value × List Int)) (i : Nat) : Option (Int × Int × List Int) :=
  match S[i]? with
  | some s => if 0 < s.2.length ∧ s.2.length ≤ 1024 then some (3, (i : Int), s.2) else none
  | none => none
theorem pk_some {S : List (Value × List Int)} {i : Nat} {s : Value × List Int} (h : S[i]? = some s) (h0 : 0 < s.2.length) (h1 : s.2.length ≤ 1024) : pk S i = some (3, (i : Int), s.2) := by
  simp [pk, h, h0, h1]
theorem pk_none {S : List (Value × List Int)} {i : Nat} {s : Value × List Int} (h : S[i]? = some s) (h0 : ¬ (0 < s.2.length ∧ s.2.length ≤ 1024)) : pk S i = none := by
  simp only [pk, h]
  rw [if_neg h0]
def sent (S : List (Value × List Int)) (k : Nat) : List (Int × Int × List Int) := (List.range k).filterMap (pk S)
def left' (S : List (Value × List Int)) (k K : Nat) : List (Int × Int × List Int) := (List.range' k (K - k)).filterMap (pk S)
theorem sent_some {S : List (Value × List Int)} {k : Nat} {x : Int × Int × List Int} (h : pk S k = some x) : sent S (k + 1) = sent S k ++ [x] := by
  simp [sent, List.range_succ, h]
theorem sent_none {S : List (Value × List Int)} {k : Nat} (h : pk S k = none) : sent S (k + 1) = sent S k := by
  simp [sent, List.range_succ, h]
theorem sent_len (S : List (Value × List Int)) (k : Nat) : (sent S k).length ≤ k := by
  have := List.length_filterMap_le (pk S) (List.range k)
  simpa [sent] using this
theorem left_start (S : List (Value × List Int)) (K : Nat) : left' S 0 K = sent S K := by
  simp [left', sent, List.range_eq_range']
theorem left_some {S : List (Value × List Int)} {k K : Nat} {x : Int × Int × List Int} (hk : k < K) (h : pk S k = some x) : left' S k K = x :: left' S (k + 1) K := by
  obtain ⟨m, rfl⟩ : ∃ m, K = k + (m + 1) := ⟨K - k - 1, by omega⟩
  have e1 : k + (m + 1) - k = m + 1 := by omega
  have e2 : k + (m + 1) - (k + 1) = m := by omega
  simp [left', e1, e2, List.range'_succ, h]
theorem left_none {S : List (Value × List Int)} {k K : Nat} (hk : k < K) (h : pk S k = none) : left' S k K = left' S (k + 1) K := by
  obtain ⟨m, rfl⟩ : ∃ m, K = k + (m + 1) := ⟨K - k - 1, by omega⟩
  have e1 : k + (m + 1) - k = m + 1 := by omega
  have e2 : k + (m + 1) - (k + 1) = m := by omega
  simp [left', e1, e2, List.range'_succ, h]

theorem Cok.step {c : Ct} {M : Int} (h : Cok c M) : Cok { c with s := c.s + 1, d := c.d + 1, c := c.c + 1 } (M + 1) := by
  obtain ⟨h1, h2, h3, h4, h5, h6, h7, h8, h9, h10, h11, h12, h13, h14⟩ := h
  constructor <;> (simp only; omega)
theorem Cok.sendStep {c : Ct} {M : Int} (h : Cok c M) : Cok { c with s := c.s + 1 } (M + 1) := by
  obtain ⟨h1, h2, h3, h4, h5, h6, h7, h8, h9, h10, h11, h12, h13, h14⟩ := h
  constructor <;> (simp only; omega)
theorem Cok.take {c : Ct} {M : Int} (h : Cok c M) : Cok { c with d := c.d + 1 } (M + 1) := by
  obtain ⟨h1, h2, h3, h4, h5, h6, h7, h8, h9, h10, h11, h12, h13, h14⟩ := h
  constructor <;> (simp only; omega)
theorem Cok.more {c : Ct} {M N : Int} (h : Cok c M) (hn : M ≤ N) : Cok c N := by
  obtain ⟨h1, h2, h3, h4, h5, h6, h7, h8, h9, h10, h11, h12, h13, h14⟩ := h
  constructor <;> omega
theorem Cok.far {c : Ct} {M : Int} (h : Cok c M) (hn : M ≤ 1000) : Far c := h.more (by omega)

/-- the law's state between two rounds -/
structure Fz (w0 w : World) (b bm : Nat) (vb : Value) (M : Nat) (X : List (Int × Int × List Int)) : Prop where
  ex : ∃ v c L H, Fx w0.heap.size w b bm v c L vb H [] ∧ L.map bare = X ∧ Cok c M ∧ H.length ≤ 30 * M
  kp : Kp Nu w0 w
theorem Cok.zero : Cok Ct0 ((0 : Nat) : Int) := by constructor <;> simp [Ct0]
theorem Fz.skip {w0 w : World} {b bm : Nat} {vb : Value} {M : Nat} {X : List (Int × Int × List Int)} (h : Fz w0 w b bm vb M X) : Fz w0 w b bm vb (M + 1) X := by
  obtain ⟨⟨v, c, L, H, h1, h2, h3, h4⟩, h5⟩ := h
  exact ⟨⟨v, c, L, H, h1, h2, h3.more (by omega), by omega⟩, h5⟩
theorem Fz.more {w0 w : World} {b bm : Nat} {vb : Value} {M N : Nat} {X : List (Int × Int × List Int)} (h : Fz w0 w b bm vb M X) (hMN : M ≤ N) : Fz w0 w b bm vb N X := by
  obtain ⟨⟨v, c, L, H, h1, h2, h3, h4⟩, h5⟩ := h
  exact ⟨⟨v, c, L, H, h1, h2, h3.more (by omega), by omega⟩, h5⟩
theorem cs_set (zs : List Int) (q : Nat) (z : Int) : (cs zs).set q (.int .u8 z) = cs (zs.set q z) := by simp [cs, List.map_set]
end Go.Proofs.Ythajboipnjjgfaa.Ly
namespace Go.Proofs.Ythajboipnjjgfaa.Ly
open Go.RowKit Go.Maps
set_option linter.unusedVariables false

/-- behind hold: what the append to the book wants, and what it leaves -/
structure Hdd (B : Nat) (w w1 : World) (b bm : Nat) (v : Value) (c : Ct) (L : List Gm) (vb : Value) (H : List Hh) (P : List Gm) (xs : List Value) : Prop where
  own : (w1.alloc (.cells xs.toArray 47)).ownsRow B 47 6 vb H.length (hcs H)
  low : B ≤ (w1.alloc (.cells xs.toArray 47)).heap.size
  fin : ∀ vb' w3, w3.ownsRow B 47 6 vb' (H.length + 1) (hcs H ++ xs) → (w1.alloc (.cells xs.toArray 47)).grownBy w3 vb.ownBlock → ∃ e, Fx B w3 b bm v c L vb' (H ++ [e]) P ∧ Kp (Bt w) w w3 ∧ Kp (fun i => B ≤ i) w w3

section
variable {B b bm : Nat} {w w' : World} {v v' : Value} {c c' : Ct} {L L' : List Gm} {vb : Value} {H : List Hh} {P : List Gm}
theorem Fx.holdC {g : Gm} (h : Fx B w b bm v c L vb H (g :: P)) (m : Int) (m0 : 0 ≤ m) (m1 : m < 256) :
    Calls Try.prog 27 #[g.d, .int .u8 m] w fun e w1 => ∃ gb n cap a1 n1 c1 a2 n2 c2 a3 n3 c3 a9 n9 c9 m', e = .returned (.agg #[.slice (some ⟨gb, 0, none⟩) n cap, .slice a1 n1 c1, .slice a2 n2 c2, .slice a3 n3 c3, .slice a9 n9 c9, .int .u8 m']) ∧ Hdd B w w1 b bm v c L vb H P [.slice (some ⟨gb, 0, none⟩) n cap, .slice a1 n1 c1, .slice a2 n2 c2, .slice a3 n3 c3, .slice a9 n9 c9, .int .u8 m'] := by
  have hD := h.dat g (by simp)
  obtain ⟨gb, cap, hd⟩ := hD.slice
  have hdb : g.d.ownBlock = some gb := by rw [hd]; rfl
  have ho := hD.own
  rw [hd] at ho ⊢
  refine (hold_any ho hD.pos hD.le h.low m m0 m1).mono ?_
  rintro e w1 ⟨g1, g2, g3, g9, rfl, hm, hk, hlie⟩
  obtain ⟨a1, c1, e1⟩ := own_slice hm.g1
  obtain ⟨a2, c2, e2⟩ := own_slice hm.g2
  obtain ⟨a3, c3, e3⟩ := own_slice hm.g3
  obtain ⟨a9, c9, e9⟩ := own_slice hm.g9
  simp only at e1 e2 e3 e9
  subst e1 e2 e3 e9
  refine ⟨_, _, _, _, _, _, _, _, _, _, _, _, _, _, _, _, rfl, ⟨?_, ?_, ?_⟩⟩
  · exact (h.turn hdb hk).bq.own.alloc _
  · have h1 := h.low
    have h2 := hk.size
    simp
    omega
  · intro vb' w3 ho3 hg3
    exact ⟨_, h.hold hd hm hk hlie (Kp.alloc w1 _ Nu) ho3 hg3⟩
theorem Dg.told {B' : Nat} {g : Gm} {a : Addr} {n cap : Nat} (h : Dg w B g) (ho : w'.ownsRow B' 5 1 (.slice (some a) n cap) g.ys.length (cs g.ys)) : Dg w' B' { g with d := .slice (some a) n cap } := ⟨ho, h.pos, h.le, h.f0, h.f1, h.t0, h.t1⟩
theorem Apt.one (g : Gm) : Apt [g] := List.pairwise_singleton _ _
/-- one slice more was handed out -/
theorem Fx.tell1 {g : Gm} {a : Addr} {n cap : Nat} (h : Fx B w b bm v c L vb H P) (h' : Fx B w' b bm v' c' L' vb H P) (hs : ∀ g ∈ L', g ∈ L) (hg : g ∈ L) (ho : w'.ownsRow w.heap.size 5 1 (.slice (some a) n cap) g.ys.length (cs g.ys)) : Fx B w' b bm v' c' L' vb H (P ++ [{ g with d := .slice (some a) n cap }]) :=
  h.tell h' hs (fun x hx => by
    simp only [List.mem_singleton] at hx
    subst hx
    exact (h.nt.dat g hg).told ho) (Nat.le_refl _) (Apt.one _)
/-- a told datagram in a box of its own -/
def Bx (w : World) (X : Nat) (f t : Int) (d : Value) : Prop := w.heap[X]? = some (.cells #[.int .u8 f, .int .u8 t, d] 38 (0, 0))
theorem Bx.nu {X : Nat} {f t : Int} {d : Value} (h : Bx w X f t d) (k : Kp Nu w w') : Bx w' X f t d := (k.block X (blk_lt h) (fun h => h)).trans h
theorem Bx.bt {X : Nat} {f t : Int} {d : Value} (h : Bx w X f t d) (k : Kp (Bt w) w w') : Bx w' X f t d := (k.block X (blk_lt h) (fun ⟨cur, t, ht, hc⟩ => by
  rw [h] at hc
  cases hc
  simp at ht)).trans h
theorem Bx.d {X : Nat} {f t : Int} {d : Value} (h : Bx w X f t d) : w.cell? ⟨X, 2, none⟩ = some d := (cell3 h).2.2
theorem Kp.low {S : Nat → Prop} {w0 : World} (h : Kp Nu w0 w) (k : Kp S w w') (hS : ∀ i, S i → w0.heap.size ≤ i) : Kp Nu w0 w' := h.trans k (fun i hi s => by
  have := hS i s
  omega)
end
theorem Fx.drop {B b bm : Nat} {w : World} {v : Value} {c : Ct} {L : List Gm} {vb : Value} {H : List Hh} {P : List Gm} (h : Fx B w b bm v c L vb H P) : Fx B w b bm v c L vb H [] :=
  ⟨h.nt, h.bq, h.ap, by simp, List.Pairwise.nil, by simp⟩
theorem wrp8 (x : Int) : 0 ≤ IntKind.u8.wrap x ∧ IntKind.u8.wrap x < 256 := by
  rw [IntKind.wrap_u8]
  omega
/-- in the midst of a round: what was told, and not yet written over -/
structure R5 (w W : World) (b bm : Nat) (v : Value) (c : Ct) (L : List Gm) (vb : Value) (H : List Hh) (P : List Gm) (X Y Z r1 r2 c1 c2 NL : Nat) (k : Int) (dx dy dz : Value) (L1 L2 : List Gm) : Prop where
  fx : Fx w.heap.size W b bm v c L vb H P
  bx : Bx W X 3 k dx
  by' : Bx W Y 3 k dy
  bz : Bx W Z 3 k dz
  l1 : W.ownsRow 0 38 3 (.slice (some ⟨r1, 0, none⟩) NL c1) NL (cells L1)
  l2 : W.ownsRow 0 38 3 (.slice (some ⟨r2, 0, none⟩) NL c2) NL (cells L2)
  n1 : L1.length = NL
  n2 : L2.length = NL
  ne : r1 ≠ r2
  nv : v.ownBlock ≠ some r1
  lw : w.heap.size ≤ r1
  kp : Kp Nu w W
section
variable {w W W' : World} {b bm : Nat} {v : Value} {c : Ct} {L : List Gm} {vb vb' : Value} {H H' : List Hh} {P P' : List Gm} {X Y Z r1 r2 c1 c2 NL : Nat} {k : Int} {dx dy dz : Value} {L1 L2 : List Gm}
theorem R5.nu (h : R5 w W b bm v c L vb H P X Y Z r1 r2 c1 c2 NL k dx dy dz L1 L2) (q : Kp Nu W W') : R5 w W' b bm v c L vb H P X Y Z r1 r2 c1 c2 NL k dx dy dz L1 L2 :=
  ⟨h.fx.nu q, h.bx.nu q, h.by'.nu q, h.bz.nu q, own_keep h.l1 (fun g hg => q.block g (own_lt h.l1 hg) (fun e => e)), own_keep h.l2 (fun g hg => q.block g (own_lt h.l2 hg) (fun e => e)), h.n1, h.n2, h.ne, h.nv, h.lw, h.kp.andNu q⟩
theorem R5.step (h : R5 w W b bm v c L vb H P X Y Z r1 r2 c1 c2 NL k dx dy dz L1 L2) (f : Fx w.heap.size W' b bm v c L vb' H' P') (q : Kp (Bt W) W W') (q2 : Kp (fun i => w.heap.size ≤ i) W W') : R5 w W' b bm v c L vb' H' P' X Y Z r1 r2 c1 c2 NL k dx dy dz L1 L2 :=
  ⟨f, h.bx.bt q, h.by'.bt q, h.bz.bt q, own_bt h.l1 q, own_bt h.l2 q, h.n1, h.n2, h.ne, h.nv, h.lw, h.kp.low q2 (fun i e => e)⟩
theorem R5.at1 (h : R5 w W b bm v c L vb H P X Y Z r1 r2 c1 c2 NL k dx dy dz L1 L2) {i : Nat} {g : Gm} (hi : L1[i]? = some g) : W.cell? ⟨r1, i * 3 + 2, none⟩ = some g.d := by
  have ho := h.l1
  rw [← h.n1] at ho
  obtain ⟨r, cap, e, _, _, x2⟩ := row_at ho hi
  simp only [Value.slice.injEq, Option.some.injEq, Addr.mk.injEq, and_true] at e
  rw [e.1]
  exact x2
end
end Go.Proofs.Ythajboipnjjgfaa.Ly
namespace Go.Proofs.Ythajboipnjjgfaa.Ly
open Go.RowKit Go.Maps
set_option linter.unusedVariables false

theorem unhid {p : Prop} (h : Hid p) : p := h

set_option maxHeartbeats 400000 in
/-- two equal byte strings: nothing but draws -/
theorem same_q {w : World} {u v : Value} {xs : List Int} (h : Rd w u xs) (k : Rd w v xs) (h0 : 0 < xs.length) (hb : xs.length ≤ 140737488355328) :
    Calls Try.prog 23 #[u, v] w fun e w' => e = .returned (.bool true) ∧ ∃ m, w' = w.drewN m := by
  rcases h with ⟨rfl, rfl⟩ | ⟨a, cap, rfl, hc⟩
  · simp at h0
  rcases k with ⟨rfl, rfl⟩ | ⟨a2, cap2, rfl, hc2⟩
  · simp at h0
  have HC := hide hc
  have HC2 := hide hc2
  have HBB := hide hb
  clear hb
  generalize hn : xs.length = n at *
  have HN := hide hn
  clear hc hc2 hn
  have hnn : ((n : Int) != (n : Int)) = false := by simp
  go_enter Try.func23, Try.ntmps23
  go_wp2
  go_loopw [5] (fun i wr => ∃ (j q : Nat), j ≤ n ∧ i = .int .i64 j ∧ wr = w.drewN q) (fun i _ => n - (intOf i).toNat)
  case atStart => exact ⟨0, 0, by omega, rfl, rfl⟩
  case round =>
    obtain ⟨j, q, hj, rfl, rfl⟩ := hrel
    by_cases hlt : j < n
    · have h1 : j < xs.length := by have := HN.out; omega
      have hx := HC.out j (.int .u8 xs[j]) (by simp [cs, h1])
      have hy := HC2.out j (.int .u8 xs[j]) (by simp [cs, h1])
      have hltI : (j : Int) < (n : Int) := by omega
      have hj0 : (0 : Int) ≤ (j : Int) := by omega
      have hjb : (j : Int) < 140737488355328 := by have := HBB.out; omega
      generalize xs[j] = z at *
      clear h1
      go_wp2
      go_region
      go_wp2
      exact ⟨⟨j + 1, _, by omega, by go_num, rfl⟩, by simp [intOf]; omega⟩
    · have hgej : decide ((j : Int) < (n : Int)) = false := by simp; omega
      go_wp2
      go_ret
      exact ⟨rfl, q, rfl⟩
end Go.Proofs.Ythajboipnjjgfaa.Ly
