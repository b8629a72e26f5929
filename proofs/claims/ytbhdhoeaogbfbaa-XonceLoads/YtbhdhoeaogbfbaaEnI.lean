import Derived.Test.YtbhdhoeaogbfbaaEnG
import Derived.Test.YtbhdhoeaogbfbaaEnE
namespace Go.Proofs.Ytbhdhoeaogbfbaa.Xo
open Go.RowKit
set_option linter.unusedVariables false
/-- the cells of a Data -/
def outC (t sq : Int) (d : Value) : List Value := [.int .u8 t, .int .u8 10, .int .u64 sq, .int .u64 0, .int .u64 0, .slice none 0 0, .slice none 0 0, .bool false, .int .u8 0, .int .u8 0, .int .u8 0, .int .u32 0, .int .u32 0, .int .u64 0, .int .u8 0, .slice none 0 0, .slice none 0 0, d]
/-- a slice of one Data -/
def Dt (w : World) (B : Nat) (v : Value) (t sq : Int) (ys : List Int) : Prop := ∃ d, w.ownsRow B 59 18 v 1 (outC t sq d) ∧ w.ownsRow B 5 1 d ys.length (cs ys)
theorem info59f : (Try.prog.info? 59).map (fun i => (i.zero, i.size, i.bytes)) = some (some (.agg #[.int .u8 0, .int .u8 0, .int .u64 0, .int .u64 0, .int .u64 0, .slice none 0 0, .slice none 0 0, .bool false, .int .u8 0, .int .u8 0, .int .u8 0, .int .u32 0, .int .u32 0, .int .u64 0, .int .u8 0, .slice none 0 0, .slice none 0 0, .slice none 0 0]), 18, 192) := by kernel_rfl
theorem own_nil {w : World} {B e size : Nat} : w.ownsRow B e size (.slice none 0 0) 0 [] := ⟨by simp, .inl ⟨rfl, rfl⟩⟩
set_option maxRecDepth 100000 in
set_option maxHeartbeats 1000000 in
theorem datas_one (a o : Nat) (t : Int) (place : Nat) (w : World) (ac sq : Int) (r cap n : Nat) (c1 : w.cell? ⟨a, o + 1, none⟩ = some (.int .u64 ac)) (c2 : w.cell? ⟨a, o + 2, none⟩ = some (.slice (some ⟨r, 0, none⟩) n cap)) (hp : place < n) (hn16 : n ≤ 16)
    (u : Value) (ys : List Int) (cu : w.cell? ⟨r, place, none⟩ = some u) (hu : Rd w u ys) (hy0 : 0 < ys.length) (hy : ys.length ≤ 3072) (hsq : IntKind.u64.wrap (IntKind.u64.wrap (ac + 1) + IntKind.u64.wrap (place : Int)) = sq) :
    Calls Try.prog 83 #[.pointer (some ⟨a, o, none⟩), .int .u8 t, .int .i64 (place : Int), .int .i64 ((place : Int) + 1)] w fun e w' => ∃ v, e = .returned v ∧ Dt w' w.heap.size v t sq ys ∧ Kp Nu w w' := by
  have DA := data_any a o t place w ac sq r cap n c1 c2 hp u ys cu hu hy0 hy hsq
  obtain ⟨i0, hi, hz0, hz1, hz2⟩ := info_parts info59f
  have h1 : (place : Int) < (place : Int) + 1 := by omega
  have hwp : Hid (wrap64 ((place : Int) + 1) = (place : Int) + 1) := wrap_small (by omega) (by omega)
  clear c1 c2 hp hn16 cu hu hy0 hy hsq
  go_enter Try.func83, Try.ntmps83
  go_wp2_with fail
  go_loopw [9, 10] (fun out i wr => (out = .slice none 0 0 ∧ i = .int .i64 (place : Int) ∧ wr = w) ∨ (i = .int .i64 ((place : Int) + 1) ∧ Hid (Dt wr w.heap.size out t sq ys ∧ Kp Nu w wr) ∧ ∃ ad n cap, out = .slice ad n cap)) (fun _ i _ => (((place : Int) + 1) - intOf i).toNat)
  case atStart => exact .inl ⟨rfl, rfl, rfl⟩
  case round =>
    rcases hrel with ⟨rfl, rfl, rfl⟩ | ⟨rfl, HD, ad, n', cap', rfl⟩
    · go_wp2_with (first | (go_at_call 85; refine DA.mono ?_; rintro e w2 ⟨d, rfl, ho, hk2⟩; obtain ⟨add, cpd, hd⟩ := own_slice ho; have HO := hide ho; have HK2 := hide hk2; subst hd; clear ho hk2) | (at_builtin; refine wpList_append_own _ rfl _ _ 46 rfl wr.heap.size 59 i0 _ 18 192 Try.underlying46 hi hz0 hz1 hz2 rfl (by decide) _ _ _ rfl own_nil ⟨w2.heap.size, 0, none⟩ 1 1 (outC t sq (.slice add ys.length cpd)) rfl ?qc1 ?qc2 ?qc3 ?qc4 ?qc5 ?qc6 ?_))
      case qc1 => rfl
      case qc2 =>
        intro j x hj
        rw [Addr.add_lit, Nat.zero_add]
        have hb := heap_alloc_new w2 (.cells (outC t sq (.slice add ys.length cpd)).toArray 59)
        have : ((outC t sq (.slice add ys.length cpd)).toArray)[j]? = some x := by simpa using hj
        exact cellAt hb j this
      case qc3 =>
        intro x hx
        simp only [outC, List.mem_cons, List.not_mem_nil, or_false] at hx
        rcases hx with rfl | rfl | rfl | rfl | rfl | rfl | rfl | rfl | rfl | rfl | rfl | rfl | rfl | rfl | rfl | rfl | rfl | rfl <;> rfl
      case qc4 => unfold maxLen; omega
      case qc5 => omega
      case qc6 => have := HK2.out.size; simp; omega
      intro v' w3 hown hgrow hnil
      obtain ⟨adv, cpv, hv⟩ := own_slice hown
      have kg := Kp.of_grown hgrow
      have k3 : Kp Nu wr w3 := (HK2.out.andAlloc _).trans kg (fun i hi e => by simp [Value.ownBlock] at e)
      have HD : Hid (Dt w3 wr.heap.size v' t sq ys ∧ Kp Nu wr w3) := by
        refine ⟨⟨_, by simpa using hown, ?_⟩, k3⟩
        have ho := HO.out
        exact own_keep ho (fun g hg => (kg.block g (by have := own_lt ho hg; simp; omega) (fun e => by simp [Value.ownBlock] at e)).trans (Below.heap_alloc _ _ _ (own_lt ho hg)))
      clear hown hgrow hnil kg k3 HO HK2
      subst hv
      go_wp2
      exact ⟨.inr ⟨by rw [hwp.out], HD, _, _, _, rfl⟩, by rw [hwp.out]; show ((place : Int) + 1 - ((place : Int) + 1)).toNat < ((place : Int) + 1 - (place : Int)).toNat; omega⟩
    · have hl : ¬ (place : Int) + 1 < (place : Int) + 1 := by omega
      go_wp2
      go_ret
      exact ⟨_, rfl, HD.out⟩
end Go.Proofs.Ytbhdhoeaogbfbaa.Xo
