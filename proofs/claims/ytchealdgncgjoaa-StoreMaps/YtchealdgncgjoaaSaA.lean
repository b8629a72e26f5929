import Derived.Test.YtchealdgncgjoaaRmB
import Derived.Test.YtchealdgncgjoaaBwA
import Derived.Test.YtchealdgncgjoaaOrd
namespace Go.Proofs.Ytchealdgncgjoaa.StI
open Go.RowKit Go.Proofs.Ytchealdgncgjoaa.St Go.Shelf Go.Sort Go.Proofs.Ytchealdgncgjoaa.It
set_option linter.unusedVariables false
/-- the boxes of StoreAll, apart -/
structure Sx (bs ba br bM bR bT bi mb rb B n1 : Nat) (vk vv : Value) : Prop where
  sa : bs < ba
  ar : ba < br
  rB : br < B
  mB : B ≤ mb
  m1 : mb < n1
  dB : B ≤ rb
  d1 : rb < n1
  kB : ∀ g, vk.ownBlock = some g → B ≤ g ∧ g < n1
  vB : ∀ g, vv.ownBlock = some g → B ≤ g ∧ g < n1
  nM : n1 ≤ bM
  MR : bM < bR
  RT : bR < bT
  Ti : bT < bi
/-- what stands while StoreAll goes on: t the program's tree, L the document's list -/
structure Sa (X : World) (bs ba br bM bR bT bi mb rb B : Nat) (vk vv : Value) (stop ahead told i : Int) (t : T (Int × Int)) (L : List (Int × Int)) : Prop where
  s : X.heap[bs]? = some (.cells #[.int .i64 stop] 3 (0, 0))
  a : X.heap[ba]? = some (.cells #[.int .i64 ahead] 3 (0, 0))
  r : X.heap[br]? = some (.cells #[.bool false] 4 (0, 0))
  m : X.heap[bM]? = some (.cells #[.pointer (some ⟨mb, 0, none⟩)] 22 (0, 0))
  d : X.heap[bR]? = some (.cells #[.pointer (some ⟨rb, 0, none⟩)] 48 (0, 0))
  o : X.heap[bT]? = some (.cells #[.int .i64 told] 3 (0, 0))
  c : X.heap[bi]? = some (.cells #[.int .i64 i] 3 (0, 0))
  mp : Mp X mb t
  rm : Rm B X rb 0 vk vv L
section
variable {X Z : World} {bs ba br bM bR bT bi mb rb B n1 : Nat} {vk vv : Value} {stop ahead told i : Int} {t : T (Int × Int)} {L : List (Int × Int)}
theorem Sa.cc (h : Sa X bs ba br bM bR bT bi mb rb B vk vv stop ahead told i t L) (k : Cc X Z) : Sa Z bs ba br bM bR bT bi mb rb B vk vv stop ahead told i t L :=
  ⟨k _ _ _ _ h.s, k _ _ _ _ h.a, k _ _ _ _ h.r, k _ _ _ _ h.m, k _ _ _ _ h.d, k _ _ _ _ h.o, k _ _ _ _ h.c, k.mp h.mp, k.rm h.rm⟩
/-- one box of a number turns -/
theorem box_other {g : Nat} {u : Value} (b : Nat) (hb : b ≠ g) : (X.setCell ⟨g, 0, none⟩ u).heap[b]? = X.heap[b]? := Below.heap_setCell X ⟨g, 0, none⟩ u b hb
theorem Mp.box {g : Nat} {u : Value} (h : Mp X mb t) {c : Array Value} (hg : X.heap[g]? = some (.cells c 3 (0, 0))) : Mp (X.setCell ⟨g, 0, none⟩ u) mb t := by
  obtain ⟨a, h1, h2⟩ := h.ex
  have hn : ∀ (b : Nat) (c' : Array Value) (ty : TypeId), X.heap[b]? = some (.cells c' ty (0, 0)) → ty ≠ 3 → b ≠ g := fun b c' ty hb ht e => by rw [e, hg] at hb; cases hb; exact ht rfl
  exact ⟨⟨a, (box_other _ (hn _ _ _ h1 (by decide))).trans h1, h2.keep (fun b c' hb => (box_other _ (hn _ _ _ hb (by decide))).trans hb)⟩, h.bal, h.srt⟩
theorem Rm.box {g : Nat} {u : Value} (h : Rm B X rb 0 vk vv L) (hr : rb ≠ g) (hk : vk.ownBlock ≠ some g) (hv : vv.ownBlock ≠ some g) : Rm B (X.setCell ⟨g, 0, none⟩ u) rb 0 vk vv L :=
  ⟨(box_other _ hr).trans h.blk, own_keep h.ok (fun q hq => box_other _ (fun e => hk (by rw [← e]; exact hq))), own_keep h.ov (fun q hq => box_other _ (fun e => hv (by rw [← e]; exact hq))), h.apart⟩
theorem Sa.tell (x : Sx bs ba br bM bR bT bi mb rb B n1 vk vv) (h : Sa X bs ba br bM bR bT bi mb rb B vk vv stop ahead told i t L) (told' : Int) : Sa (X.setCell ⟨bT, 0, none⟩ (.int .i64 told')) bs ba br bM bR bT bi mb rb B vk vv stop ahead told' i t L := by
  have := x.sa; have := x.ar; have := x.rB; have := x.mB; have := x.m1; have := x.nM; have := x.MR; have := x.RT; have := x.Ti; have := x.d1
  exact ⟨(box_other _ (by omega)).trans h.s, (box_other _ (by omega)).trans h.a, (box_other _ (by omega)).trans h.r, (box_other _ (by omega)).trans h.m, (box_other _ (by omega)).trans h.d, by rw [set3 h.o]; rfl, (box_other _ (by omega)).trans h.c, h.mp.box h.o, h.rm.box (by omega) (fun e => by have := x.kB _ e; omega) (fun e => by have := x.vB _ e; omega)⟩
theorem Sa.step (x : Sx bs ba br bM bR bT bi mb rb B n1 vk vv) (h : Sa X bs ba br bM bR bT bi mb rb B vk vv stop ahead told i t L) (i' : Int) : Sa (X.setCell ⟨bi, 0, none⟩ (.int .i64 i')) bs ba br bM bR bT bi mb rb B vk vv stop ahead told i' t L := by
  have := x.sa; have := x.ar; have := x.rB; have := x.mB; have := x.m1; have := x.nM; have := x.MR; have := x.RT; have := x.Ti; have := x.d1
  exact ⟨(box_other _ (by omega)).trans h.s, (box_other _ (by omega)).trans h.a, (box_other _ (by omega)).trans h.r, (box_other _ (by omega)).trans h.m, (box_other _ (by omega)).trans h.d, (box_other _ (by omega)).trans h.o, by rw [set3 h.c]; rfl, h.mp.box h.c, h.rm.box (by omega) (fun e => by have := x.kB _ e; omega) (fun e => by have := x.vB _ e; omega)⟩
theorem Sa.put (h : Sa X bs ba br bM bR bT bi mb rb B vk vv stop ahead told i t L) {t' : T (Int × Int)} (hm : Mp Z mb t') (k : Kp (fun j => j = mb) X Z) : Sa Z bs ba br bM bR bT bi mb rb B vk vv stop ahead told i t' L := by
  obtain ⟨a, h1, _⟩ := h.mp.ex
  have hn : ∀ {b : Nat} {c : Array Value} {ty : TypeId}, X.heap[b]? = some (.cells c ty (0, 0)) → ty ≠ 130 → Z.heap[b]? = some (.cells c ty (0, 0)) := fun {b c ty} hb ht => (k.block b (blk_lt hb) (fun e => by have e : b = mb := e; rw [e, h1] at hb; cases hb; exact ht rfl)).trans hb
  exact ⟨hn h.s (by decide), hn h.a (by decide), hn h.r (by decide), hn h.m (by decide), hn h.d (by decide), hn h.o (by decide), hn h.c (by decide), hm, h.rm.keepM h.mp k⟩
theorem Sa.rput (x : Sx bs ba br bM bR bT bi mb rb B n1 vk vv) (h : Sa X bs ba br bM bR bT bi mb rb B vk vv stop ahead told i t L) {L' : List (Int × Int)} (hr : Rm B Z rb 0 vk vv L') (k : Kp (fun j => vv.ownBlock = some j) X Z) : Sa Z bs ba br bM bR bT bi mb rb B vk vv stop ahead told i t L' := by
  have := x.sa; have := x.ar; have := x.rB; have := x.nM; have := x.MR; have := x.RT; have := x.Ti
  have hn : ∀ {b : Nat} {c : Array Value} {ty : TypeId}, X.heap[b]? = some (.cells c ty (0, 0)) → (b < B ∨ n1 ≤ b) → Z.heap[b]? = some (.cells c ty (0, 0)) := fun {b c ty} hb ht => (k.block b (blk_lt hb) (fun e => by have := x.vB _ e; omega)).trans hb
  refine ⟨hn h.s (.inl (by omega)), hn h.a (.inl (by omega)), hn h.r (.inl (by omega)), hn h.m (.inr (by omega)), hn h.d (.inr (by omega)), hn h.o (.inr (by omega)), hn h.c (.inr (by omega)), h.mp.keepR h.rm (k.mono (fun _ _ e => .inr e)), hr⟩
end
/-- what stands between the rounds -/
structure So (X : World) (bs ba br bM bR bT mb rb B : Nat) (vk vv : Value) (stop ahead told : Int) (t : T (Int × Int)) (L : List (Int × Int)) : Prop where
  s : X.heap[bs]? = some (.cells #[.int .i64 stop] 3 (0, 0))
  a : X.heap[ba]? = some (.cells #[.int .i64 ahead] 3 (0, 0))
  r : X.heap[br]? = some (.cells #[.bool false] 4 (0, 0))
  m : X.heap[bM]? = some (.cells #[.pointer (some ⟨mb, 0, none⟩)] 22 (0, 0))
  d : X.heap[bR]? = some (.cells #[.pointer (some ⟨rb, 0, none⟩)] 48 (0, 0))
  o : X.heap[bT]? = some (.cells #[.int .i64 told] 3 (0, 0))
  mp : Mp X mb t
  rm : Rm B X rb 0 vk vv L
theorem So.cc {X Z : World} {bs ba br bM bR bT mb rb B : Nat} {vk vv : Value} {stop ahead told : Int} {t : T (Int × Int)} {L : List (Int × Int)} (h : So X bs ba br bM bR bT mb rb B vk vv stop ahead told t L) (k : Cc X Z) : So Z bs ba br bM bR bT mb rb B vk vv stop ahead told t L :=
  ⟨k _ _ _ _ h.s, k _ _ _ _ h.a, k _ _ _ _ h.r, k _ _ _ _ h.m, k _ _ _ _ h.d, k _ _ _ _ h.o, k.mp h.mp, k.rm h.rm⟩
theorem So.sa {X : World} {bs ba br bM bR bT bi mb rb B : Nat} {vk vv : Value} {stop ahead told i : Int} {t : T (Int × Int)} {L : List (Int × Int)} (h : So X bs ba br bM bR bT mb rb B vk vv stop ahead told t L) (hc : X.heap[bi]? = some (.cells #[.int .i64 i] 3 (0, 0))) : Sa X bs ba br bM bR bT bi mb rb B vk vv stop ahead told i t L := ⟨h.s, h.a, h.r, h.m, h.d, h.o, hc, h.mp, h.rm⟩
theorem Sa.so {X : World} {bs ba br bM bR bT bi mb rb B : Nat} {vk vv : Value} {stop ahead told i : Int} {t : T (Int × Int)} {L : List (Int × Int)} (h : Sa X bs ba br bM bR bT bi mb rb B vk vv stop ahead told i t L) : So X bs ba br bM bR bT mb rb B vk vv stop ahead told t L := ⟨h.s, h.a, h.r, h.m, h.d, h.o, h.mp, h.rm⟩
/-- where the loop over All stands -/
def SaJ (w : World) (bs ba br bM bR bT bi mb rb B : Nat) (vk vv : Value) (stop ahead told : Int) (ks : List Int) (Ls : List Nat) (pre : List (Int × Int)) (V : World) : Prop :=
  ∃ t, Sa V bs ba br bM bR bT bi mb rb B vk vv stop ahead (told + (pre.length : Int)) (pre.length : Int) t t.xs ∧ t.xs.map Prod.fst = ks ∧ Below w.heap.size w V ∧ ¬ (0 ≤ stop ∧ stop < (pre.length : Int)) ∧ ∀ D ∈ Ls, V.heap[D]? = some (.deferred (some []))
def SaE (w : World) (bs ba br bM bR bT bi mb rb B : Nat) (vk vv : Value) (stop ahead told : Int) (ks : List Int) (Ls : List Nat) (id : Nat) (c : Code) (pre : List (Int × Int)) (V : World) : Prop :=
  c = .exit id ∧ ∃ t, Sa V bs ba br bM bR bT bi mb rb B vk vv stop ahead (told + (pre.length : Int)) stop t t.xs ∧ t.xs.map Prod.fst = ks ∧ Below w.heap.size w V ∧ stop + 1 = (pre.length : Int) ∧ 0 < pre.length ∧ ∀ D ∈ Ls, V.heap[D]? = some (.deferred (some []))
section
variable {w : World} {bs ba br bM bR bT bi mb rb B n1 : Nat} {vk vv : Value} {stop ahead told : Int} {ks : List Int} {Ls : List Nat} {id : Nat}
theorem SaJ.own {C : Nat} (hC : w.heap.size ≤ C) (hD : ∀ D ∈ Ls, D < C) : OwnFrom C (SaJ w bs ba br bM bR bT bi mb rb B vk vv stop ahead told ks Ls) := fun pre X Z row h hg hr => by
  obtain ⟨t, h1, h2, h3, h4, h5⟩ := h
  exact ⟨t, h1.cc (Cc.grown hg hr), h2, ownFrom_below (β := Unit) (Nat.le_refl _) hC () X Z row h3 hg hr, h4, fun D hd => own_block (hD D hd) () X Z row (h5 D hd) hg hr⟩
theorem SaE.own {C : Nat} (hC : w.heap.size ≤ C) (hD : ∀ D ∈ Ls, D < C) (c : Code) : OwnFrom C (SaE w bs ba br bM bR bT bi mb rb B vk vv stop ahead told ks Ls id c) := fun pre X Z row h hg hr => by
  obtain ⟨h0, t, h1, h2, h3, h4, h5, h6⟩ := h
  exact ⟨h0, t, h1.cc (Cc.grown hg hr), h2, ownFrom_below (β := Unit) (Nat.le_refl _) hC () X Z row h3 hg hr, h4, h5, fun D hd => own_block (hD D hd) () X Z row (h6 D hd) hg hr⟩
theorem keys_len {t : T (Int × Int)} (h : t.xs.map Prod.fst = ks) : t.xs.length = ks.length ∧ t.sz = ks.length := by
  have := congrArg List.length h
  rw [List.length_map] at this
  exact ⟨this, by rw [← T.xs_length]; exact this⟩
theorem SaJ.mm (hb : ks.length ≤ 17592186043904) {pre : List (Int × Int)} {V : World} (h : SaJ w bs ba br bM bR bT bi mb rb B vk vv stop ahead told ks Ls pre V) : MmM mb V := by
  obtain ⟨t, h1, h2, _⟩ := h
  exact ⟨t, h1.mp, by have := (keys_len h2).2; omega⟩
/-- the element that is told stands at its place -/
theorem key_at {t : T (Int × Int)} {pre : List (Int × Int)} {x : Int × Int} (h2 : t.xs.map Prod.fst = ks) (hp : (pre ++ [x]).map Prod.fst <+: ks) : ∃ y, t.xs[pre.length]? = some y ∧ y.1 = x.1 := by
  obtain ⟨s, e⟩ := hp
  have h3 : ks[pre.length]? = some x.1 := by rw [← e]; simp
  rw [← h2, List.getElem?_map] at h3
  cases hy : t.xs[pre.length]? with
  | none => rw [hy] at h3; cases h3
  | some y => rw [hy] at h3; exact ⟨y, rfl, by simpa using h3⟩
theorem SaJ.gn {pre : List (Int × Int)} {x : Int × Int} {V : World} (h : SaJ w bs ba br bM bR bT bi mb rb B vk vv stop ahead told ks Ls pre V) (hp : (pre ++ [x]).map Prod.fst <+: ks) (hg : GnM mb x V) : False := by
  obtain ⟨t, h1, h2, _⟩ := h
  obtain ⟨t', h3, h4⟩ := hg
  obtain rfl := h3.det h1.mp
  obtain ⟨y, hy, e⟩ := key_at h2 hp
  have := (get_mem h1.mp.srt (List.mem_of_getElem? hy)).1
  rw [e, h4] at this
  cases this
theorem told_at {t : T (Int × Int)} {pre : List (Int × Int)} {x : Int × Int} {V : World} (hm : Mp V mb t) (h2 : t.xs.map Prod.fst = ks) (hp : (pre ++ [x]).map Prod.fst <+: ks) (hv : VlM mb x V) : t.xs[pre.length]? = some x := by
  obtain ⟨t', h3, h4⟩ := hv
  obtain rfl := h3.det hm
  obtain ⟨y, hy, e⟩ := key_at h2 hp
  have := (get_mem hm.srt (List.mem_of_getElem? hy)).1
  rw [e, h4] at this
  cases this
  exact hy
/-- a value is put for a key that is there: the keys stay -/
theorem put_keys {t : T (Int × Int)} (hs : Srt cmpI t.xs) {j : Nat} {p : Int × Int} (hp : t.xs[j]? = some p) (v : Int) : (putT p.1 v t).xs = t.xs.modify j (fun q => (q.1, v)) ∧ (putT p.1 v t).xs.map Prod.fst = t.xs.map Prod.fst ∧ plc cmpI p.1 t.xs = (j : Int) := by
  have hf := place_of hs hp
  have h2 : (T.fd (sd p.1) t).2 = true := by rw [hf]
  have h1 : (T.fd (sd p.1) t).1 = j := by rw [hf]
  have e : (putT p.1 v t).xs = t.xs.modify j (fun q => (q.1, v)) := by rw [put_xs, if_pos h2, h1]
  refine ⟨e, ?_, by rw [plc_yes hs h2, h1]⟩
  rw [e]
  exact map_modify Prod.fst (fun q => (q.1, v)) (fun _ => rfl) t.xs j
end
end Go.Proofs.Ytchealdgncgjoaa.StI
