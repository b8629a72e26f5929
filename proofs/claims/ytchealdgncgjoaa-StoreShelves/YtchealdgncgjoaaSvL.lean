import Derived.Test.YtchealdgncgjoaaLfP
import Derived.Test.YtchealdgncgjoaaRuF
namespace Go.Proofs.Ytchealdgncgjoaa.St
open Go.ChangeShapes Go.WideShapes Go.ChangeAt Go.RowKit
open Go.Deep
set_option linter.unusedVariables false
theorem cellsOf121 : Try.prog.cellsOf 121 = 7 := by kernel_rfl
theorem bytesOf121 : Try.prog.bytesOf 121 = 88 := by kernel_rfl
theorem cellsOf3S : Try.prog.cellsOf 3 = 1 := by kernel_rfl
theorem cellsOf68S : Try.prog.cellsOf 68 = 1 := by kernel_rfl
theorem get7 {α : Type} {l : List α} (h : l.length = 7) : ∃ a b c d e f g, l = [a, b, c, d, e, f, g] := by
  match l, h with
  | [a, b, c, d, e, f, g], _ => exact ⟨a, b, c, d, e, f, g, rfl⟩
section
variable {H : Type} {enc : TypeId × Value → H} {W : World}
theorem open_pair1S {fuel : Nat} {cs0 : List Value} {x : DataW H × List MemPlace} (h : DataW.trod enc Try.prog W 0 (fun _ => true) true fuel 78 cs0 = some x) :
    ∃ s : StU.Pg, cs0 = [.int .u64 s.k, .slice s.v.a s.v.n s.v.c] ∧ PgOk W s ∧ ((∀ n ∈ x.1.weights Try.prog 78, n ≤ 140737488351232) → s.ys.length ≤ 140737488351232) := by
  obtain ⟨xs, n, rfl, rfl, hl, hxl, hf⟩ := DataW.trod_struct Try.underlying78 h
  rw [cellsOf78] at hl
  obtain ⟨y0, y1, rfl⟩ := get2 (show xs.length = 2 from hxl)
  obtain ⟨v0, v1, rfl⟩ := get2 hl
  have f0 : DataW.trod enc Try.prog W 0 (fun _ => true) true n 69 [v0] = some y0 := by
    have g : DataW.trod enc Try.prog W 0 (fun _ => true) true n 69 (([v0, v1].drop 0).take (Try.prog.cellsOf 69)) = [y0, y1][0]? := hf 0 _ rfl
    rw [cellsOf69] at g; exact g
  have f1 : DataW.trod enc Try.prog W 0 (fun _ => true) true n 74 [v1] = some y1 := by
    have g : DataW.trod enc Try.prog W 0 (fun _ => true) true n 74 (([v0, v1].drop 1).take (Try.prog.cellsOf 74)) = [y0, y1][1]? := hf 1 _ rfl
    rw [cellsOf74] at g; exact g
  obtain ⟨k0, e0, _, b0⟩ := DataW.trod_int Try.underlying69 f0
  obtain ⟨bv, bs, e1, hd, hby, w1⟩ := open_bytesP f1
  obtain rfl : v0 = .int .u64 k0 := by simpa using e0
  obtain rfl : v1 = bv := by simpa using e1
  obtain ⟨ad, cap, rfl⟩ := hd.slice
  simp [Lit.wf, IntKind.min, IntKind.max, IntKind.signed, IntKind.bits] at b0
  refine ⟨⟨k0, ⟨ad, bs.length, cap⟩, bs⟩, rfl, ⟨hd, hby, by dsimp only; omega, by dsimp only; omega⟩, fun hw => ?_⟩
  rcases w1 with ⟨_, rfl⟩ | ⟨el, sp, e, hel⟩
  · simp
  · have := hw ((el.length + sp.length) * Try.prog.bytesOf 5) (by simp [DataW.weights, DataW.weightsEach, Try.underlying78, e, Try.underlying74])
    rw [bytesOf5] at this
    show bs.length ≤ _
    omega
/-- pairs that came in, within a step of the script -/
theorem open_pairsS {fuel : Nat} {v0 : Value} {x : DataW H × List MemPlace} (hf' : DataW.trod enc Try.prog W 0 (fun _ => true) true fuel 68 [v0] = some x) (hw : ∀ n ∈ x.1.weights Try.prog 68, n ≤ 140737488351232) :
    ∃ S : List StU.Pg, StU.Wp W v0 S ∧ StU.AOk (S.map StU.kv) := by
  rcases open_slice Try.underlying68 hf' with ⟨hcs, hx⟩ | ⟨a, len, cap, m, n, D, Pl, hcs, _, hl, hm, hmm, hx, hel⟩
  · simp only [List.cons.injEq, and_true] at hcs
    rw [hcs]
    exact ⟨[], ⟨_, _, rfl, fun i s hi => by simp at hi⟩, Nat.zero_le _, fun m hm => by cases hm⟩
  · simp only [List.cons.injEq, and_true] at hcs
    rw [hcs]
    have hml : m = cap := by rw [hmm]; simp
    have each : ∀ i, i < len → ∃ s : StU.Pg, (∀ j, j < 2 → W.cell? (a.add (i * 2 + j)) = [Value.int .u64 s.k, .slice s.v.a s.v.n s.v.c][j]?) ∧ PgOk W s ∧ s.ys.length ≤ 140737488351232 := by
      intro i hi
      obtain ⟨cs', hc, ht⟩ := hel i (by omega)
      rw [cellsOf78] at hc
      obtain ⟨s, rfl, hfit, hbd⟩ := open_pair1S ht
      refine ⟨s, fun j hj => ?_, hfit, hbd (fun n hn => hw n ?_)⟩
      rotate_left
      · rw [hx]
        simp only [DataW.weights, Try.underlying68, List.mem_cons, List.mem_append]
        refine .inr (.inl (wAll_mem (d := D i) ?_ n hn))
        exact List.mem_map.2 ⟨i, List.mem_range.2 hi, rfl⟩
      obtain ⟨_, _, hcell⟩ := World.cells?_some hc
      have := hcell j hj
      rw [Deep.add_add] at this
      exact this
    haveI : Inhabited StU.Pg := ⟨⟨0, ⟨none, 0, 0⟩, []⟩⟩
    obtain ⟨f, hf2⟩ := choose_lt (α := StU.Pg) each
    by_cases h0 : len = 0
    · subst h0
      exact ⟨[], ⟨_, _, rfl, fun i s hi => by simp at hi⟩, Nat.zero_le _, fun m hm => by cases hm⟩
    · have hsp : a.spot = none := by
        have h1 := (hf2 0 (by omega)).1 0 (by omega)
        have e : a.add (0 * 2 + 0) = a := by simp [Addr.add]
        rw [e] at h1
        simp only [List.getElem?_cons_zero] at h1
        exact spot_noneP h1
      obtain ⟨ab, ao, sp⟩ := a
      simp only at hsp
      subst hsp
      have hlb : len ≤ 4398046510976 := by
        have := hw ((((List.range len).map D).length + ((List.range (m - len)).map fun j => D (len + j)).length) * Try.prog.bytesOf 78) (by rw [hx]; simp [DataW.weights, Try.underlying68])
        rw [bytesOf78] at this
        simp only [List.length_map, List.length_range] at this
        omega
      refine ⟨(List.range len).map f, ⟨_, cap, by rw [List.length_map, List.length_range], fun i s hs => ⟨ab, ao, rfl, ?_⟩⟩, by simpa using hlb, fun mm hmm2 => ?_⟩
      · have hi : i < len := by
          have := (List.getElem?_eq_some_iff.1 hs).1
          simpa using this
        have hs' : f i = s := by simpa [hi] using hs
        subst hs'
        obtain ⟨hc, hfit, hbd⟩ := hf2 i hi
        have c := fun j hj => hc j hj
        simp only [Addr.add_lit] at c
        refine ⟨by simpa using c 0 (by omega), ?_, hfit.1, hfit.2.1, hfit.2.2.1, hfit.2.2.2, by omega⟩
        have := c 1 (by omega); rw [← Nat.add_assoc] at this; simpa using this
      · obtain ⟨s, hs, rfl⟩ := List.mem_map.1 hmm2
        obtain ⟨i, hi, rfl⟩ := List.mem_map.1 hs
        obtain ⟨hc, hfit, hbd⟩ := hf2 i (List.mem_range.1 hi)
        exact ⟨hfit.2.1, hfit.2.2.1, hfit.2.2.2, hbd⟩
theorem wEach {n : Nat} {y0 y1 y2 y3 y4 y5 y6 : DataW H} (h : n ∈ y5.weights Try.prog 74 ∨ n ∈ y6.weights Try.prog 68) : n ∈ (DataW.agg [y0, y1, y2, y3, y4, y5, y6]).weights Try.prog 121 := by
  simp only [DataW.weights, Try.underlying121]
  simp [DataW.weightsEach]
  rcases h with h | h <;> simp [h]
/-- a step that came in -/
theorem open_op1 {fuel : Nat} {cs0 : List Value} {x : DataW H × List MemPlace} (h : DataW.trod enc Try.prog W 0 (fun _ => true) true fuel 121 cs0 = some x) (hw : ∀ n ∈ x.1.weights Try.prog 121, n ≤ 140737488351232) :
    ∃ s : StU.Op7, cs0 = [.int .i64 s.k, .int .i64 s.s, .int .u64 s.lo, .int .u64 s.hi, .int .i64 s.n, .slice s.v.a s.v.n s.v.c, s.p] ∧ StU.OpOk W s := by
  obtain ⟨xs, n, rfl, rfl, hl, hxl, hf⟩ := DataW.trod_struct Try.underlying121 h
  rw [cellsOf121] at hl
  obtain ⟨y0, y1, y2, y3, y4, y5, y6, rfl⟩ := get7 (show xs.length = 7 from hxl)
  obtain ⟨v0, v1, v2, v3, v4, v5, v6, rfl⟩ := get7 hl
  have f0 : DataW.trod enc Try.prog W 0 (fun _ => true) true n 3 [v0] = some y0 := by
    have g : DataW.trod enc Try.prog W 0 (fun _ => true) true n 3 (([v0, v1, v2, v3, v4, v5, v6].drop 0).take (Try.prog.cellsOf 3)) = [y0, y1, y2, y3, y4, y5, y6][0]? := hf 0 _ rfl
    rw [cellsOf3S] at g; exact g
  have f1 : DataW.trod enc Try.prog W 0 (fun _ => true) true n 3 [v1] = some y1 := by
    have g : DataW.trod enc Try.prog W 0 (fun _ => true) true n 3 (([v0, v1, v2, v3, v4, v5, v6].drop 1).take (Try.prog.cellsOf 3)) = [y0, y1, y2, y3, y4, y5, y6][1]? := hf 1 _ rfl
    rw [cellsOf3S] at g; exact g
  have f2 : DataW.trod enc Try.prog W 0 (fun _ => true) true n 69 [v2] = some y2 := by
    have g : DataW.trod enc Try.prog W 0 (fun _ => true) true n 69 (([v0, v1, v2, v3, v4, v5, v6].drop 2).take (Try.prog.cellsOf 69)) = [y0, y1, y2, y3, y4, y5, y6][2]? := hf 2 _ rfl
    rw [cellsOf69] at g; exact g
  have f3 : DataW.trod enc Try.prog W 0 (fun _ => true) true n 69 [v3] = some y3 := by
    have g : DataW.trod enc Try.prog W 0 (fun _ => true) true n 69 (([v0, v1, v2, v3, v4, v5, v6].drop 3).take (Try.prog.cellsOf 69)) = [y0, y1, y2, y3, y4, y5, y6][3]? := hf 3 _ rfl
    rw [cellsOf69] at g; exact g
  have f4 : DataW.trod enc Try.prog W 0 (fun _ => true) true n 3 [v4] = some y4 := by
    have g : DataW.trod enc Try.prog W 0 (fun _ => true) true n 3 (([v0, v1, v2, v3, v4, v5, v6].drop 4).take (Try.prog.cellsOf 3)) = [y0, y1, y2, y3, y4, y5, y6][4]? := hf 4 _ rfl
    rw [cellsOf3S] at g; exact g
  have f5 : DataW.trod enc Try.prog W 0 (fun _ => true) true n 74 [v5] = some y5 := by
    have g : DataW.trod enc Try.prog W 0 (fun _ => true) true n 74 (([v0, v1, v2, v3, v4, v5, v6].drop 5).take (Try.prog.cellsOf 74)) = [y0, y1, y2, y3, y4, y5, y6][5]? := hf 5 _ rfl
    rw [cellsOf74] at g; exact g
  have f6 : DataW.trod enc Try.prog W 0 (fun _ => true) true n 68 [v6] = some y6 := by
    have g : DataW.trod enc Try.prog W 0 (fun _ => true) true n 68 (([v0, v1, v2, v3, v4, v5, v6].drop 6).take (Try.prog.cellsOf 68)) = [y0, y1, y2, y3, y4, y5, y6][6]? := hf 6 _ rfl
    rw [cellsOf68S] at g; exact g
  obtain ⟨k0, e0, _, b0⟩ := DataW.trod_int Try.underlying3 f0
  obtain rfl : v0 = .int .i64 k0 := by simpa using e0
  obtain ⟨k1, e1, _, b1⟩ := DataW.trod_int Try.underlying3 f1
  obtain rfl : v1 = .int .i64 k1 := by simpa using e1
  obtain ⟨k2, e2, _, b2⟩ := DataW.trod_int Try.underlying69 f2
  obtain rfl : v2 = .int .u64 k2 := by simpa using e2
  obtain ⟨k3, e3, _, b3⟩ := DataW.trod_int Try.underlying69 f3
  obtain rfl : v3 = .int .u64 k3 := by simpa using e3
  obtain ⟨k4, e4, _, b4⟩ := DataW.trod_int Try.underlying3 f4
  obtain rfl : v4 = .int .i64 k4 := by simpa using e4
  obtain ⟨bv, bs, e5, hd, hby, w5⟩ := open_bytesP f5
  obtain rfl : v5 = bv := by simpa using e5
  obtain ⟨S, hS, hA⟩ := open_pairsS f6 (fun n hn => hw n (wEach (.inr hn)))
  obtain ⟨ad, cap, rfl⟩ := hd.slice
  simp [Lit.wf, IntKind.min, IntKind.max, IntKind.signed, IntKind.bits] at b2
  refine ⟨⟨k0, k1, k2, k3, k4, ⟨ad, bs.length, cap⟩, bs, v6, S⟩, rfl, hd, hby, ?_, hS, hA, by dsimp only; omega, by dsimp only; omega⟩
  rcases w5 with ⟨_, rfl⟩ | ⟨el, sp, e, hel⟩
  · simp
  · have := hw ((el.length + sp.length) * Try.prog.bytesOf 5) (wEach (.inl (by simp [DataW.weights, e, Try.underlying74])))
    rw [bytesOf5] at this
    show bs.length ≤ _
    omega
/-- the script that came in -/
theorem open_sops {v0 : Value} {d0 : DataW H} {p0 : List MemPlace} (h : DataW.Trod enc Try.prog W 0 (fun _ => true) true 115 v0 d0 p0) (hone : ∃ a len cap, v0 = .slice a len cap) (hw : ∀ n ∈ d0.weights Try.prog 115, n ≤ 140737488351232) :
    ∃ S : List StU.Op7, StU.Wo W v0 S ∧ S.length ≤ 17592186043904 := by
  obtain ⟨fuel, hf⟩ := h
  obtain ⟨a0, len0, cap0, rfl⟩ := hone
  have hf' : DataW.trod enc Try.prog W 0 (fun _ => true) true fuel 115 [.slice a0 len0 cap0] = some (d0, p0) := by simpa [Value.cells] using hf
  rcases open_slice Try.underlying115 hf' with ⟨hcs, hx⟩ | ⟨a, len, cap, m, n, D, Pl, hcs, _, hl, hm, hmm, hx, hel⟩
  · simp only [List.cons.injEq, and_true] at hcs
    rw [hcs]
    exact ⟨[], ⟨_, _, rfl, fun i s hi => by simp at hi⟩, by simp⟩
  · simp only [List.cons.injEq, and_true] at hcs
    rw [hcs]
    simp only [Prod.mk.injEq] at hx
    have hml : m = cap := by rw [hmm]; simp
    have each : ∀ i, i < len → ∃ s : StU.Op7, (∀ j, j < 7 → W.cell? (a.add (i * 7 + j)) = [Value.int .i64 s.k, .int .i64 s.s, .int .u64 s.lo, .int .u64 s.hi, .int .i64 s.n, .slice s.v.a s.v.n s.v.c, s.p][j]?) ∧ StU.OpOk W s := by
      intro i hi
      obtain ⟨cs', hc, ht⟩ := hel i (by omega)
      rw [cellsOf121] at hc
      obtain ⟨s, rfl, hok⟩ := open_op1 ht (fun n hn => hw n (by
        rw [hx.1]
        simp only [DataW.weights, Try.underlying115, List.mem_cons, List.mem_append]
        refine .inr (.inl (wAll_mem (d := D i) ?_ n hn))
        exact List.mem_map.2 ⟨i, List.mem_range.2 hi, rfl⟩))
      refine ⟨s, fun j hj => ?_, hok⟩
      obtain ⟨_, _, hcell⟩ := World.cells?_some hc
      have := hcell j hj
      rw [Deep.add_add] at this
      exact this
    obtain ⟨f, hf2⟩ := choose_lt (α := StU.Op7) each
    by_cases h0 : len = 0
    · subst h0
      exact ⟨[], ⟨_, _, rfl, fun i s hi => by simp at hi⟩, by simp⟩
    · have hsp : a.spot = none := by
        have h1 := (hf2 0 (by omega)).1 0 (by omega)
        have e : a.add (0 * 7 + 0) = a := by simp [Addr.add]
        rw [e] at h1
        simp only [List.getElem?_cons_zero] at h1
        exact spot_noneP h1
      obtain ⟨ab, ao, sp⟩ := a
      simp only at hsp
      subst hsp
      have hlb : len ≤ 17592186043904 := by
        have := hw ((((List.range len).map D).length + ((List.range (m - len)).map fun j => D (len + j)).length) * Try.prog.bytesOf 121) (by rw [hx.1]; simp [DataW.weights, Try.underlying115])
        rw [bytesOf121] at this
        simp only [List.length_map, List.length_range] at this
        omega
      refine ⟨(List.range len).map f, ⟨_, cap, by rw [List.length_map, List.length_range], fun i s hs => ⟨ab, ao, rfl, ?_⟩⟩, by simpa using hlb⟩
      have hi : i < len := by
        have := (List.getElem?_eq_some_iff.1 hs).1
        simpa using this
      have hs' : f i = s := by simpa [hi] using hs
      subst hs'
      obtain ⟨hc, hok⟩ := hf2 i hi
      have c := fun j hj => hc j hj
      simp only [Addr.add_lit] at c
      refine ⟨⟨by simpa using c 0 (by omega), ?_, ?_, ?_, ?_, ?_, ?_⟩, hok⟩
      · have := c 1 (by omega); rw [← Nat.add_assoc] at this; simpa using this
      · have := c 2 (by omega); rw [← Nat.add_assoc] at this; simpa using this
      · have := c 3 (by omega); rw [← Nat.add_assoc] at this; simpa using this
      · have := c 4 (by omega); rw [← Nat.add_assoc] at this; simpa using this
      · have := c 5 (by omega); rw [← Nat.add_assoc] at this; simpa using this
      · have := c 6 (by omega); rw [← Nat.add_assoc] at this; simpa using this
end
end Go.Proofs.Ytchealdgncgjoaa.St
namespace Go.Proofs.Ytchealdgncgjoaa.St
open Go.ChangeShapes Go.WideShapes Go.ChangeAt Go.RowKit
set_option linter.unusedVariables false

theorem storeShelvesLaid : laidOutB Try.prog = true := by kernel_rfl
set_option maxRecDepth 100000 in
theorem storeShelvesLifted (os : Os) (started : os.Started) (H : Type) (enc : TypeId × Value → H) :
    ReturnsInHanded {} Try.checked os 15 .any (Rows.storeShelvesSpec.pre6 enc Try.prog Try.f15 Rows.storeShelvesRow.domain false) (Rows.storeShelvesSpec.post enc Try.prog Try.f15 false true false false) := by
  refine returnsInHanded_of_change_sized (C := Try.checked) ownK started (by kernel_rfl) Try.func15
    (ChangeSpec.witness6 (enc := enc) (C := Try.checked) false ⟨#[], #[.int .i64 0, .int .i64 0, .slice none 0 0], []⟩ 8 (by kernel_rfl) (by kernel_rfl) (by kernel_rfl) (by kernel_rfl)) ?_
  intro W base args ds gs before hval0 hW hcnd hsz0 _
  have hval : ∀ (j : Nat) t v, Try.f15.params[j]? = some t → args[j]? = some v → Value.okWide Try.prog W .any base t v := hval0
  have hsz : (DataW.weightsEach Try.prog (Try.f15.params.toList ++ Rows.storeShelvesSpec.plain.varTypes Try.prog) (ds ++ gs)).all (· ≤ reachBytes) = true := hsz0
  have hW' := hW
  obtain ⟨p, q, hA0, hV, rfl, hfz, hnd⟩ := hW
  have hA : DataW.TrodAll enc Try.prog W 0 (fun _ => true) true Try.f15.params.toList args.toList ds p := hA0
  rw [Try.params15] at hA hval hsz
  obtain ⟨v0, vs0, d0, ds0, p0, q0, hargs0, rfl, rfl, h0, r0⟩ := trodAll_cons hA
  obtain ⟨v1, vs1, d1, ds1, p1, q1, hargs1, rfl, rfl, h1, r1⟩ := trodAll_cons r0
  obtain ⟨v2, vs2, d2, ds2, p2, q2, hargs2, rfl, rfl, h2, r2⟩ := trodAll_cons r1
  obtain ⟨rfl, rfl, rfl⟩ := trodAll_nil r2
  obtain rfl : args = #[v0, v1, v2] := by cases args; simp_all
  obtain ⟨rfl, rfl⟩ := trodVars_none hV
  have h0k := h0
  have h1k := h1
  have h2k := h2
  obtain ⟨n0, rfl, rfl, rfl, w0⟩ := open_int Try.underlying3 (hval 0 3 v0 rfl rfl) h0
  have b0 : -9223372036854775808 ≤ n0 ∧ n0 < 9223372036854775808 := by
    simp [Lit.wf, IntKind.min, IntKind.max, IntKind.signed, IntKind.bits] at w0
    omega
  obtain ⟨n1, rfl, rfl, rfl, w1⟩ := open_int Try.underlying3 (hval 1 3 v1 rfl rfl) h1
  have b1 : -9223372036854775808 ≤ n1 ∧ n1 < 9223372036854775808 := by
    simp [Lit.wf, IntKind.min, IntKind.max, IntKind.signed, IntKind.bits] at w1
    omega
  obtain ⟨S2, hS2, hl2⟩ := open_sops h2 (okWide_slice Try.underlying115 (hval 2 115 v2 rfl rfl)) (sized_at hsz 2 rfl rfl)
  clear hA0 hval0
  simp only [List.append_nil] at hW'
  have hlt0 : ∀ x ∈ ([] : List MemPlace), x.block < W.heap.size := fun x hx => by cases hx
  have hlt1 : ∀ x ∈ ([] : List MemPlace), x.block < W.heap.size := fun x hx => by cases hx
  have hlt2 : ∀ x ∈ p2, x.block < W.heap.size := fun x hx => hW'.lt x (by simp [hx])
  refine (StU.shelves_walk W n0 n1 v2 S2 hS2 hl2).mono fun e W' ⟨he, hk⟩ => ?_
  subst he
  exact ⟨_, rfl, _, _, _, [], _, [], hW', trodAll_mk1 (shut_bool Try.underlying4 _), trodAll_cons_mk (Below.trod storeShelvesLaid (by kernel_rfl) (of_decide_eq_true (by kernel_rfl)) h0k hk.toBelow hlt0) (trodAll_cons_mk (Below.trod storeShelvesLaid (by kernel_rfl) (of_decide_eq_true (by kernel_rfl)) h1k hk.toBelow hlt1) (trodAll_cons_mk (Below.trod storeShelvesLaid (by kernel_rfl) (of_decide_eq_true (by kernel_rfl)) h2k hk.toBelow hlt2) trodAll_mk0)), rfl, hk.toBelow.frame _, fun h => by cases h⟩

theorem storeShelvesOver : Rows.storeShelvesRow.holds Try.pinned (OpenSpec.ofChange Rows.storeShelvesSpec) :=
  OpenClaim.holds_of_wide 15 Try.f15 rfl rfl rfl rfl rfl rfl rfl ⟨rfl, rfl, rfl, rfl, rfl⟩ rfl rfl rfl rfl rfl (by kernel_rfl) Try.func15 (by kernel_rfl)
    (of_decide_eq_true (by kernel_rfl)) (by unfold Func.isWrapper; first | (rw [if_pos (by decide +kernel)]; kernel_rfl) | (rw [if_neg (by decide +kernel)]; exact ⟨rfl, rfl⟩))
    (fun os started H enc _ => storeShelvesLifted os started H enc)
end Go.Proofs.Ytchealdgncgjoaa.St
namespace Go.Proofs.Ytchealdgncgjoaa
theorem storeShelves_holds : Rows.StoreShelvesSaid := St.storeShelvesOver
#print axioms storeShelves_holds
end Go.Proofs.Ytchealdgncgjoaa
