import Derived.Test.YtbhdhoeaogbfbaaOp
import Derived.Test.YtbhdhoeaogbfbaaXgA
namespace Go.Proofs.Ytbhdhoeaogbfbaa.Xo
open Go.ChangeShapes Go.WideShapes Go.ChangeAt Go.RowKit
open Go.Deep
set_option linter.unusedVariables false
theorem cellsOf45 : Try.prog.cellsOf 45 = 1 := by kernel_rfl
theorem cellsOf66 : Try.prog.cellsOf 66 = 6 := by kernel_rfl
theorem cellsOf133 : Try.prog.cellsOf 133 = 2 := by kernel_rfl
theorem cellsOf51 : Try.prog.cellsOf 51 = 1 := by kernel_rfl
theorem cellsOf41 : Try.prog.cellsOf 41 = 1 := by kernel_rfl
theorem cellsOf64 : Try.prog.cellsOf 64 = 1 := by kernel_rfl
theorem cellsOf22 : Try.prog.cellsOf 22 = 1 := by kernel_rfl
theorem cellsOf24 : Try.prog.cellsOf 24 = 1 := by kernel_rfl
theorem cellsOf26 : Try.prog.cellsOf 26 = 6 := by kernel_rfl
theorem cellsOf3 : Try.prog.cellsOf 3 = 1 := by kernel_rfl
theorem cellsOf4 : Try.prog.cellsOf 4 = 1 := by kernel_rfl
theorem bytesOf45 : Try.prog.bytesOf 45 = 24 := by kernel_rfl
theorem bytesOf66 : Try.prog.bytesOf 66 = 80 := by kernel_rfl
theorem bytesOf133 : Try.prog.bytesOf 133 = 32 := by kernel_rfl
theorem get1 {α : Type} {l : List α} (h : l.length = 1) : ∃ a, l = [a] := by
  match l, h with
  | [a], _ => exact ⟨a, rfl⟩
theorem get2 {α : Type} {l : List α} (h : l.length = 2) : ∃ a b, l = [a, b] := by
  match l, h with
  | [a, b], _ => exact ⟨a, b, rfl⟩
theorem get6 {α : Type} {l : List α} (h : l.length = 6) : ∃ a b c d e f, l = [a, b, c, d, e, f] := by
  match l, h with
  | [a, b, c, d, e, f], _ => exact ⟨a, b, c, d, e, f, rfl⟩
theorem spot_noneP {w : World} {a : Addr} {u : Value} (h : w.cell? a = some u) : a.spot = none := by
  unfold World.cell? at h
  split at h
  · split at h
    · cases h
    · rename_i _ hs; simpa using hs
  · cases h
theorem wAll_mem {P : Program} {H : Type} {e : TypeId} : ∀ {l : List (DataW H)} {d : DataW H}, d ∈ l → ∀ n ∈ d.weights P e, n ∈ DataW.weightsAll P e l
  | [], d, h, n, hn => by cases h
  | x :: r, d, h, n, hn => by
    simp only [DataW.weightsAll, List.mem_append]
    rcases List.mem_cons.1 h with rfl | h
    · exact .inl hn
    · exact .inr (wAll_mem h n hn)
section
variable {H : Type} {enc : TypeId × Value → H} {W : World}
/-- a list that came in, opened at every place -/
theorem open_listG {α : Type} [Inhabited α] {t e : TypeId} {c bb : Nat} (ht : Try.prog.underlying t = some (.slice e)) (hc : Try.prog.cellsOf e = c) (hby : Try.prog.bytesOf e = bb) (hc0 : 0 < c) (cl : α → List Value) (hcl : ∀ s, (cl s).length = c) (Q : α → Prop)
    {fuel : Nat} {v0 : Value} {x : DataW H × List MemPlace} (hf' : DataW.trod enc Try.prog W 0 (fun _ => true) true fuel t [v0] = some x) (hw : ∀ n ∈ x.1.weights Try.prog t, n ≤ 140737488351232)
    (each : ∀ (fuel : Nat) (cs0 : List Value) (y : DataW H × List MemPlace), DataW.trod enc Try.prog W 0 (fun _ => true) true fuel e cs0 = some y → (∀ n ∈ y.1.weights Try.prog e, n ≤ 140737488351232) → ∃ s, cs0 = cl s ∧ Q s) :
    ∃ (S : List α) (ad : Option Addr) (cap : Nat), v0 = .slice ad S.length cap ∧ S.length * bb ≤ 140737488351232 ∧ ∀ (i : Nat) (s : α), S[i]? = some s → Q s ∧ ∃ b off, ad = some ⟨b, off, none⟩ ∧ ∀ j, j < c → W.cell? ⟨b, off + i * c + j, none⟩ = (cl s)[j]? := by
  rcases open_slice ht hf' with ⟨hcs, hx⟩ | ⟨a, len, cap, m, n, D, Pl, hcs, _, hl, hm, hmm, hx, hel⟩
  · simp only [List.cons.injEq, and_true] at hcs
    rw [hcs]
    exact ⟨[], _, _, rfl, by simp, fun i s hi => by simp at hi⟩
  · simp only [List.cons.injEq, and_true] at hcs
    rw [hcs]
    have hml : m = cap := by rw [hmm]; simp
    have ex : ∀ i, i < len → ∃ s : α, (∀ j, j < c → W.cell? (a.add (i * c + j)) = (cl s)[j]?) ∧ Q s := by
      intro i hi
      obtain ⟨cs', hcc, htt⟩ := hel i (by omega)
      rw [hc] at hcc
      obtain ⟨s, rfl, hq⟩ := each n cs' _ htt (fun k hk => hw k (by
        rw [hx]
        simp only [DataW.weights, ht, List.mem_cons, List.mem_append]
        refine .inr (.inl (wAll_mem (d := D i) ?_ k hk))
        exact List.mem_map.2 ⟨i, List.mem_range.2 hi, rfl⟩))
      refine ⟨s, fun j hj => ?_, hq⟩
      obtain ⟨_, _, hcell⟩ := World.cells?_some hcc
      have := hcell j hj
      rw [Deep.add_add] at this
      exact this
    obtain ⟨f, hf2⟩ := choose_lt (α := α) ex
    by_cases h0 : len = 0
    · subst h0
      exact ⟨[], _, _, rfl, by simp, fun i s hi => by simp at hi⟩
    · have hsp : a.spot = none := by
        have h1 := (hf2 0 (by omega)).1 0 hc0
        have e : a.add (0 * c + 0) = a := by simp [Addr.add]
        rw [e] at h1
        rw [List.getElem?_eq_getElem (by rw [hcl]; exact hc0)] at h1
        exact spot_noneP h1
      obtain ⟨ab, ao, sp⟩ := a
      simp only at hsp
      subst hsp
      have hlb : len * bb ≤ 140737488351232 := by
        have := hw ((((List.range len).map D).length + ((List.range (m - len)).map fun j => D (len + j)).length) * Try.prog.bytesOf e) (by rw [hx]; simp [DataW.weights, ht])
        rw [hby] at this
        simp only [List.length_map, List.length_range] at this
        exact Nat.le_trans (Nat.mul_le_mul_right _ (Nat.le_add_right _ _)) this
      refine ⟨(List.range len).map f, _, cap, by rw [List.length_map, List.length_range], by simpa using hlb, fun i s hs => ?_⟩
      have hi : i < len := by
        have := (List.getElem?_eq_some_iff.1 hs).1
        simpa using this
      have hs' : f i = s := by simpa [hi] using hs
      subst hs'
      obtain ⟨hcc, hq⟩ := hf2 i hi
      refine ⟨hq, ab, ao, rfl, fun j hj => ?_⟩
      have := hcc j hj
      simp only [Addr.add_lit] at this
      rw [Nat.add_assoc]
      exact this
theorem bytes_len {fuel : Nat} {x : DataW H × List MemPlace} {bs : List Int} (h : (x.1 = .nil ∧ bs = []) ∨ ∃ el sp, x.1 = .slice el sp ∧ el.length = bs.length) (hw : ∀ n ∈ x.1.weights Try.prog 45, n ≤ 140737488351232) : bs.length ≤ 140737488351232 := by
  rcases h with ⟨_, rfl⟩ | ⟨el, sp, e, hel⟩
  · simp
  · have := hw ((el.length + sp.length) * Try.prog.bytesOf 5) (by simp [DataW.weights, e, Try.underlying45])
    rw [bytesOf5] at this
    omega
/-- payloads that came in -/
theorem open_queue {fuel : Nat} {v0 : Value} {x : DataW H × List MemPlace} (h : DataW.trod enc Try.prog W 0 (fun _ => true) true fuel 41 [v0] = some x) (hw : ∀ n ∈ x.1.weights Try.prog 41, n ≤ 140737488351232) :
    ∃ qs : List (Value × List Int), Lq W v0 qs ∧ qs.length ≤ 5864062014634 ∧ ∀ y ∈ qs, y.2.length ≤ 140737488351232 := by
  haveI : Inhabited (Value × List Int) := ⟨(.slice none 0 0, [])⟩
  obtain ⟨S, ad, cap, e, hl, hS⟩ := open_listG (α := Value × List Int) Try.underlying41 cellsOf45 bytesOf45 (by decide) (fun y => [y.1]) (fun _ => rfl) (fun y => Rd W y.1 y.2 ∧ y.2.length ≤ 140737488351232) h hw (fun fuel cs0 y hy hwy => by
    obtain ⟨v, bs, e, h1, h2, h3⟩ := open_bytes hy
    exact ⟨(v, bs), e, h1, bytes_len (fuel := fuel) h3 hwy⟩)
  refine ⟨S, ?_, by omega, fun y hy => ?_⟩
  · rcases hn : S with _ | ⟨s, r⟩
    · rw [hn] at e
      exact .inl ⟨ad, cap, e, rfl⟩
    · obtain ⟨_, b, off, e1, _⟩ := hS 0 s (by rw [hn]; rfl)
      refine .inr ⟨b, off, cap, by rw [← hn, ← e1]; exact e, fun i x hx => ?_⟩
      rw [← hn] at hx
      obtain ⟨h1, b2, off2, e2, h2⟩ := hS i x hx
      rw [e1] at e2
      cases e2
      have := h2 0 (by decide)
      rw [Nat.mul_one] at this
      exact ⟨this, h1.1⟩
  · obtain ⟨i, hi⟩ := List.mem_iff_getElem?.1 hy
    exact (hS i y hi).1.2
/-- a frame that came in -/
theorem open_frame {fuel : Nat} {cs0 : List Value} {x : DataW H × List MemPlace} (h : DataW.trod enc Try.prog W 0 (fun _ => true) true fuel 133 cs0 = some x) (hw : ∀ n ∈ x.1.weights Try.prog 133, n ≤ 140737488351232) :
    ∃ f : Fm, cs0 = f.cells ∧ Rd W f.v f.ys ∧ f.ys.length ≤ 140737488351232 ∧ 0 ≤ f.seq ∧ f.seq ≤ 18446744073709551615 := by
  obtain ⟨xs, n, rfl, rfl, hl, hxl, hf⟩ := DataW.trod_struct Try.underlying133 h
  rw [cellsOf133] at hl
  obtain ⟨y0, y1, rfl⟩ := get2 (show xs.length = 2 from hxl)
  obtain ⟨v0, v1, rfl⟩ := get2 hl
  have f0 : DataW.trod enc Try.prog W 0 (fun _ => true) true n 51 [v0] = some y0 := by
    have g : DataW.trod enc Try.prog W 0 (fun _ => true) true n 51 (([v0, v1].drop 0).take (Try.prog.cellsOf 51)) = [y0, y1][0]? := hf 0 _ rfl
    rw [cellsOf51] at g; exact g
  have f1 : DataW.trod enc Try.prog W 0 (fun _ => true) true n 45 [v1] = some y1 := by
    have g : DataW.trod enc Try.prog W 0 (fun _ => true) true n 45 (([v0, v1].drop 1).take (Try.prog.cellsOf 45)) = [y0, y1][1]? := hf 1 _ rfl
    rw [cellsOf45] at g; exact g
  obtain ⟨k0, e0, _, b0⟩ := DataW.trod_int Try.underlying51 f0
  obtain ⟨bv, bs, e1, hd, hby, w1⟩ := open_bytes f1
  obtain rfl : v0 = .int .u64 k0 := by simpa using e0
  obtain rfl : v1 = bv := by simpa using e1
  simp [Lit.wf, IntKind.min, IntKind.max, IntKind.signed, IntKind.bits] at b0
  refine ⟨⟨k0, v1, bs⟩, rfl, hd, bytes_len (fuel := 0) w1 (fun n hn => hw n ?_), by dsimp only; omega, by dsimp only; omega⟩
  simp only [DataW.weights, Try.underlying133]
  simp [DataW.weightsEach]
  simp [hn]
/-- frames that came in -/
theorem open_frames {fuel : Nat} {v0 : Value} {x : DataW H × List MemPlace} (h : DataW.trod enc Try.prog W 0 (fun _ => true) true fuel 64 [v0] = some x) (hw : ∀ n ∈ x.1.weights Try.prog 64, n ≤ 140737488351232) :
    ∃ es : List Fm, Le W v0 es ∧ es.length ≤ 4398046510976 ∧ ∀ f ∈ es, f.ys.length ≤ 140737488351232 ∧ 0 ≤ f.seq ∧ f.seq ≤ 18446744073709551615 := by
  haveI : Inhabited Fm := ⟨⟨0, .slice none 0 0, []⟩⟩
  obtain ⟨S, ad, cap, e, hl, hS⟩ := open_listG (α := Fm) Try.underlying64 cellsOf133 bytesOf133 (by decide) (fun f => f.cells) (fun _ => rfl) (fun f => Rd W f.v f.ys ∧ f.ys.length ≤ 140737488351232 ∧ 0 ≤ f.seq ∧ f.seq ≤ 18446744073709551615) h hw (fun fuel cs0 y hy hwy => open_frame hy hwy)
  refine ⟨S, ?_, by omega, fun y hy => ?_⟩
  · rcases hn : S with _ | ⟨s, r⟩
    · rw [hn] at e
      exact .inl ⟨ad, cap, e, rfl⟩
    · obtain ⟨_, b, off, e1, _⟩ := hS 0 s (by rw [hn]; rfl)
      refine .inr ⟨b, off, cap, by rw [← hn, ← e1]; exact e, fun i x hx => ?_⟩
      rw [← hn] at hx
      obtain ⟨h1, b2, off2, e2, h2⟩ := hS i x hx
      rw [e1] at e2
      cases e2
      exact ⟨h2 0 (by decide), h2 1 (by decide), h1.1⟩
  · obtain ⟨i, hi⟩ := List.mem_iff_getElem?.1 hy
    exact (hS i y hi).1.2
theorem w66 {n : Nat} {y0 y1 y2 y3 y4 y5 : DataW H} (h : n ∈ y2.weights Try.prog 41 ∨ n ∈ y5.weights Try.prog 64) : n ∈ (DataW.agg [y0, y1, y2, y3, y4, y5]).weights Try.prog 66 := by
  simp only [DataW.weights, Try.underlying66]
  simp [DataW.weightsEach]
  rcases h with h | h <;> simp [h]
/-- a peer's state that came in -/
theorem open_peer {fuel : Nat} {cs0 : List Value} {x : DataW H × List MemPlace} (h : DataW.trod enc Try.prog W 0 (fun _ => true) true fuel 66 cs0 = some x) (hw : ∀ n ∈ x.1.weights Try.prog 66, n ≤ 140737488351232) :
    ∃ s : Px, cs0 = s.p.cells ∧ In1 W s ∧ Bd s := by
  obtain ⟨xs, n, rfl, rfl, hl, hxl, hf⟩ := DataW.trod_struct Try.underlying66 h
  rw [cellsOf66] at hl
  obtain ⟨y0, y1, y2, y3, y4, y5, rfl⟩ := get6 (show xs.length = 6 from hxl)
  obtain ⟨v0, v1, v2, v3, v4, v5, rfl⟩ := get6 hl
  have f0 : DataW.trod enc Try.prog W 0 (fun _ => true) true n 51 [v0] = some y0 := by
    have g : DataW.trod enc Try.prog W 0 (fun _ => true) true n 51 (([v0, v1, v2, v3, v4, v5].drop 0).take (Try.prog.cellsOf 51)) = [y0, y1, y2, y3, y4, y5][0]? := hf 0 _ rfl
    rw [cellsOf51] at g; exact g
  have f1 : DataW.trod enc Try.prog W 0 (fun _ => true) true n 51 [v1] = some y1 := by
    have g : DataW.trod enc Try.prog W 0 (fun _ => true) true n 51 (([v0, v1, v2, v3, v4, v5].drop 1).take (Try.prog.cellsOf 51)) = [y0, y1, y2, y3, y4, y5][1]? := hf 1 _ rfl
    rw [cellsOf51] at g; exact g
  have f2 : DataW.trod enc Try.prog W 0 (fun _ => true) true n 41 [v2] = some y2 := by
    have g : DataW.trod enc Try.prog W 0 (fun _ => true) true n 41 (([v0, v1, v2, v3, v4, v5].drop 2).take (Try.prog.cellsOf 41)) = [y0, y1, y2, y3, y4, y5][2]? := hf 2 _ rfl
    rw [cellsOf41] at g; exact g
  have f3 : DataW.trod enc Try.prog W 0 (fun _ => true) true n 51 [v3] = some y3 := by
    have g : DataW.trod enc Try.prog W 0 (fun _ => true) true n 51 (([v0, v1, v2, v3, v4, v5].drop 3).take (Try.prog.cellsOf 51)) = [y0, y1, y2, y3, y4, y5][3]? := hf 3 _ rfl
    rw [cellsOf51] at g; exact g
  have f4 : DataW.trod enc Try.prog W 0 (fun _ => true) true n 51 [v4] = some y4 := by
    have g : DataW.trod enc Try.prog W 0 (fun _ => true) true n 51 (([v0, v1, v2, v3, v4, v5].drop 4).take (Try.prog.cellsOf 51)) = [y0, y1, y2, y3, y4, y5][4]? := hf 4 _ rfl
    rw [cellsOf51] at g; exact g
  have f5 : DataW.trod enc Try.prog W 0 (fun _ => true) true n 64 [v5] = some y5 := by
    have g : DataW.trod enc Try.prog W 0 (fun _ => true) true n 64 (([v0, v1, v2, v3, v4, v5].drop 5).take (Try.prog.cellsOf 64)) = [y0, y1, y2, y3, y4, y5][5]? := hf 5 _ rfl
    rw [cellsOf64] at g; exact g
  obtain ⟨k0, e0, _, b0⟩ := DataW.trod_int Try.underlying51 f0
  obtain rfl : v0 = .int .u64 k0 := by simpa using e0
  obtain ⟨k1, e1, _, b1⟩ := DataW.trod_int Try.underlying51 f1
  obtain rfl : v1 = .int .u64 k1 := by simpa using e1
  obtain ⟨qs, hq, hq1, hq2⟩ := open_queue f2 (fun n hn => hw n (w66 (.inl hn)))
  obtain ⟨k3, e3, _, b3⟩ := DataW.trod_int Try.underlying51 f3
  obtain rfl : v3 = .int .u64 k3 := by simpa using e3
  obtain ⟨k4, e4, _, b4⟩ := DataW.trod_int Try.underlying51 f4
  obtain rfl : v4 = .int .u64 k4 := by simpa using e4
  obtain ⟨es, he, he1, he2⟩ := open_frames f5 (fun n hn => hw n (w66 (.inr hn)))
  simp [Lit.wf, IntKind.min, IntKind.max, IntKind.signed, IntKind.bits] at b0 b1 b3 b4
  exact ⟨⟨⟨k0, k1, v2, qs, k3, k4, v5⟩, es⟩, rfl, ⟨hq, he⟩, hq1, hq2, he1, fun f hf => (he2 f hf).1, by dsimp only; omega, by dsimp only; omega, by dsimp only; omega, by dsimp only; omega, by dsimp only; omega, by dsimp only; omega, by dsimp only; omega, by dsimp only; omega, fun f hf => (he2 f hf).2⟩
/-- a list of peers' states that came in -/
theorem open_states {fuel : Nat} {v0 : Value} {x : DataW H × List MemPlace} (h : DataW.trod enc Try.prog W 0 (fun _ => true) true fuel 22 [v0] = some x) (hw : ∀ n ∈ x.1.weights Try.prog 22, n ≤ 140737488351232) :
    ∃ I : List Px, Wi W v0 I ∧ (∀ x ∈ I, Bd x) ∧ I.length ≤ 1759218604441 := by
  obtain ⟨S, ad, cap, e, hl, hS⟩ := open_listG (α := Px) Try.underlying22 cellsOf66 bytesOf66 (by decide) (fun s => s.p.cells) (fun _ => rfl) (fun s => In1 W s ∧ Bd s) h hw (fun fuel cs0 y hy hwy => open_peer hy hwy)
  refine ⟨S, ⟨ad, cap, e, fun i x hx => ?_⟩, fun y hy => ?_, by omega⟩
  · obtain ⟨h1, b, off, e1, h2⟩ := hS i x hx
    exact ⟨b, off, e1, h2, h1.1⟩
  · obtain ⟨i, hi⟩ := List.mem_iff_getElem?.1 hy
    exact (hS i y hi).1.2
theorem w26 {n : Nat} {y0 y1 y2 y3 y4 y5 : DataW H} (h : n ∈ y5.weights Try.prog 24) : n ∈ (DataW.agg [y0, y1, y2, y3, y4, y5]).weights Try.prog 26 := by
  simp only [DataW.weights, Try.underlying26]
  simp [DataW.weightsEach]
  simp [h]
theorem w24 {n : Nat} {y0 : DataW H} (h : n ∈ y0.weights Try.prog 22) : n ∈ (DataW.agg [y0]).weights Try.prog 24 := by
  simp only [DataW.weights, Try.underlying24]
  simp [DataW.weightsEach]
  simp [h]
/-- a Setup that came in -/
theorem open_setup {fuel : Nat} {cs0 : List Value} {x : DataW H × List MemPlace} (h : DataW.trod enc Try.prog W 0 (fun _ => true) true fuel 26 cs0 = some x) (hw : ∀ n ∈ x.1.weights Try.prog 26, n ≤ 140737488351232) :
    ∃ (s hh q wd : Int) (ld : Bool) (v : Value) (I : List Px), cs0 = [.int .i64 s, .int .i64 hh, .int .i64 q, .int .i64 wd, .bool ld, v] ∧ Wi W v I ∧ (∀ x ∈ I, Bd x) ∧ I.length ≤ 1759218604441 := by
  obtain ⟨xs, n, rfl, rfl, hl, hxl, hf⟩ := DataW.trod_struct Try.underlying26 h
  rw [cellsOf26] at hl
  obtain ⟨y0, y1, y2, y3, y4, y5, rfl⟩ := get6 (show xs.length = 6 from hxl)
  obtain ⟨v0, v1, v2, v3, v4, v5, rfl⟩ := get6 hl
  have f0 : DataW.trod enc Try.prog W 0 (fun _ => true) true n 3 [v0] = some y0 := by
    have g : DataW.trod enc Try.prog W 0 (fun _ => true) true n 3 (([v0, v1, v2, v3, v4, v5].drop 0).take (Try.prog.cellsOf 3)) = [y0, y1, y2, y3, y4, y5][0]? := hf 0 _ rfl
    rw [cellsOf3] at g; exact g
  have f1 : DataW.trod enc Try.prog W 0 (fun _ => true) true n 3 [v1] = some y1 := by
    have g : DataW.trod enc Try.prog W 0 (fun _ => true) true n 3 (([v0, v1, v2, v3, v4, v5].drop 1).take (Try.prog.cellsOf 3)) = [y0, y1, y2, y3, y4, y5][1]? := hf 1 _ rfl
    rw [cellsOf3] at g; exact g
  have f2 : DataW.trod enc Try.prog W 0 (fun _ => true) true n 3 [v2] = some y2 := by
    have g : DataW.trod enc Try.prog W 0 (fun _ => true) true n 3 (([v0, v1, v2, v3, v4, v5].drop 2).take (Try.prog.cellsOf 3)) = [y0, y1, y2, y3, y4, y5][2]? := hf 2 _ rfl
    rw [cellsOf3] at g; exact g
  have f3 : DataW.trod enc Try.prog W 0 (fun _ => true) true n 3 [v3] = some y3 := by
    have g : DataW.trod enc Try.prog W 0 (fun _ => true) true n 3 (([v0, v1, v2, v3, v4, v5].drop 3).take (Try.prog.cellsOf 3)) = [y0, y1, y2, y3, y4, y5][3]? := hf 3 _ rfl
    rw [cellsOf3] at g; exact g
  have f4 : DataW.trod enc Try.prog W 0 (fun _ => true) true n 4 [v4] = some y4 := by
    have g : DataW.trod enc Try.prog W 0 (fun _ => true) true n 4 (([v0, v1, v2, v3, v4, v5].drop 4).take (Try.prog.cellsOf 4)) = [y0, y1, y2, y3, y4, y5][4]? := hf 4 _ rfl
    rw [cellsOf4] at g; exact g
  have f5 : DataW.trod enc Try.prog W 0 (fun _ => true) true n 24 [v5] = some y5 := by
    have g : DataW.trod enc Try.prog W 0 (fun _ => true) true n 24 (([v0, v1, v2, v3, v4, v5].drop 5).take (Try.prog.cellsOf 24)) = [y0, y1, y2, y3, y4, y5][5]? := hf 5 _ rfl
    rw [cellsOf24] at g; exact g
  obtain ⟨k0, e0, _, b0⟩ := DataW.trod_int Try.underlying3 f0
  obtain rfl : v0 = .int .i64 k0 := by simpa using e0
  obtain ⟨k1, e1, _, b1⟩ := DataW.trod_int Try.underlying3 f1
  obtain rfl : v1 = .int .i64 k1 := by simpa using e1
  obtain ⟨k2, e2, _, b2⟩ := DataW.trod_int Try.underlying3 f2
  obtain rfl : v2 = .int .i64 k2 := by simpa using e2
  obtain ⟨k3, e3, _, b3⟩ := DataW.trod_int Try.underlying3 f3
  obtain rfl : v3 = .int .i64 k3 := by simpa using e3
  obtain ⟨k4, e4, _⟩ := DataW.trod_bool Try.underlying4 f4
  obtain rfl : v4 = .bool k4 := by simpa using e4
  have hw5 : ∀ n ∈ y5.1.weights Try.prog 24, n ≤ 140737488351232 := fun n hn => hw n (w26 hn)
  obtain ⟨zs, m, rfl, rfl, hl6, hz6, hf6⟩ := DataW.trod_struct Try.underlying24 f5
  obtain ⟨z0, rfl⟩ := get1 (show zs.length = 1 from hz6)
  have f6 : DataW.trod enc Try.prog W 0 (fun _ => true) true m 22 [v5] = some z0 := by
    have g : DataW.trod enc Try.prog W 0 (fun _ => true) true m 22 (([v5].drop 0).take (Try.prog.cellsOf 22)) = [z0][0]? := hf6 0 _ rfl
    rw [cellsOf22] at g; exact g
  obtain ⟨I, hI, hb, hl⟩ := open_states f6 (fun n hn => hw5 n (w24 hn))
  exact ⟨k0, k1, k2, k3, k4, v5, I, rfl, hI, hb, hl⟩
end
end Go.Proofs.Ytbhdhoeaogbfbaa.Xo
