import Derived.Test.YtgaehpdlljlliaaCwE
namespace Go.Proofs.Ytgaehpdlljlliaa.Cd
open Go.RowKit
set_option linter.unusedVariables false

set_option maxHeartbeats 1000000 in
theorem lay_nil {w : World} (t : Stp) (f : Fit w t) :
    Calls Try.prog 15 #[.pointer none, .agg #[.int .i64 t.kind, .int .u64 t.N, .int .i64 t.I, .bool t.F, t.bv]] w fun e w' => e = .returned (.bool true) ∧ Kp Nu w w' := by
  have H := handed_any (f.rd.keeps (Kp.alloc w (.cells #[.int .i64 t.kind, .int .u64 t.N, .int .i64 t.I, .bool t.F, t.bv] 40) Nu) (fun _ _ h => h)) (by have := f.len; omega)
  have n0 := f.n0
  have n1 := f.n1
  have i0 := f.i0
  have i1 := f.i1
  have hle := f.len
  have KC : ∀ (w1 : World) (v1 : Value), Kp Nu (w.alloc (.cells #[.int .i64 t.kind, .int .u64 t.N, .int .i64 t.I, .bool t.F, t.bv] 40)) w1 → Hd w1 (w.alloc (.cells #[.int .i64 t.kind, .int .u64 t.N, .int .i64 t.I, .bool t.F, t.bv] 40)).heap.size t.bv v1 t.bs → Calls Try.prog 20 #[v1, t.bv] w1 fun e w' => e = .returned (.bool true) ∧ Kp Nu w w' := by
    intro w1 v1 k hd
    refine (kept_any ((f.rd.keeps (Kp.alloc w (.cells #[.int .i64 t.kind, .int .u64 t.N, .int .i64 t.I, .bool t.F, t.bv] 40) Nu) (fun _ _ h => h)).keeps k (fun _ _ h => h)) hd (by omega)).mono ?_
    rintro e w2 ⟨rfl, k2⟩
    exact ⟨rfl, (Kp.alloc w (.cells #[.int .i64 t.kind, .int .u64 t.N, .int .i64 t.I, .bool t.F, t.bv] 40) Nu).trans (k.trans k2 (fun _ _ h => h)) (fun _ _ h => h)⟩
  have BX : ∀ w1, Kp Nu (w.alloc (.cells #[.int .i64 t.kind, .int .u64 t.N, .int .i64 t.I, .bool t.F, t.bv] 40)) w1 → w1.heap[w.heap.size]? = some (.cells #[.int .i64 t.kind, .int .u64 t.N, .int .i64 t.I, .bool t.F, t.bv] 40 (0, 0)) := fun w1 k => (k.block w.heap.size (by simp) (fun h => h)).trans (heap_alloc_new w _)
  have SH : ∀ (w1 : World) (H : Nat) (v1 : Value), Hd w1 H t.bv v1 t.bs → ∃ ad cap, v1 = .slice ad t.bs.length cap := by
    intro w1 H v1 hd
    rcases hd with ⟨_, rfl, e⟩ | ⟨_, rfl, _⟩
    · exact ⟨none, 0, by rw [e]; rfl⟩
    · exact ⟨_, _, rfl⟩
  obtain ⟨ad, cap, hbv⟩ := f.rd.slice
  obtain ⟨kind, N, I, F, bv, bs⟩ := t
  simp only at *
  subst hbv
  clear f
  by_cases h1 : kind = 1
  · subst h1
    have C := fun w => u8_nil (N % 256) (by omega) (by omega) w
    clear hle n0 n1 i0 i1
    go_enter Try.func15, Try.ntmps15
    go_wp2_with fail
    refine H.mono ?_; rintro e w1 ⟨v1, rfl, hd1, k1⟩
    obtain ⟨b0, b1, b2, b3, b4⟩ := cell5 (BX _ k1)
    have KD := KC _ _ k1 hd1
    clear KC BX SH H hd1 k1
    go_wp2_with fail
    refine Calls.mono (C _) ?_; rintro e w2 ⟨rfl, rfl⟩
    go_wp2_with fail
    refine KD.mono ?_; rintro e w3 ⟨rfl, hr⟩
    go_wp2
    go_ret
    exact ⟨rfl, hr⟩
  by_cases h2 : kind = 2
  · subst h2
    have C := fun w => u16_nil (N % 65536) (by omega) (by omega) w
    clear hle n0 n1 i0 i1
    go_enter Try.func15, Try.ntmps15
    go_wp2_with fail
    refine H.mono ?_; rintro e w1 ⟨v1, rfl, hd1, k1⟩
    obtain ⟨b0, b1, b2, b3, b4⟩ := cell5 (BX _ k1)
    have KD := KC _ _ k1 hd1
    clear KC BX SH H hd1 k1
    go_wp2_with fail
    refine Calls.mono (C _) ?_; rintro e w2 ⟨rfl, rfl⟩
    go_wp2_with fail
    refine KD.mono ?_; rintro e w3 ⟨rfl, hr⟩
    go_wp2
    go_ret
    exact ⟨rfl, hr⟩
  by_cases h3 : kind = 3
  · subst h3
    have C := fun w => u32_nil (N % 4294967296) (by omega) (by omega) w
    clear hle n0 n1 i0 i1
    go_enter Try.func15, Try.ntmps15
    go_wp2_with fail
    refine H.mono ?_; rintro e w1 ⟨v1, rfl, hd1, k1⟩
    obtain ⟨b0, b1, b2, b3, b4⟩ := cell5 (BX _ k1)
    have KD := KC _ _ k1 hd1
    clear KC BX SH H hd1 k1
    go_wp2_with fail
    refine Calls.mono (C _) ?_; rintro e w2 ⟨rfl, rfl⟩
    go_wp2_with fail
    refine KD.mono ?_; rintro e w3 ⟨rfl, hr⟩
    go_wp2
    go_ret
    exact ⟨rfl, hr⟩
  by_cases h4 : kind = 4
  · subst h4
    have C := fun w => u64_nil N n0 n1 w
    clear hle n0 n1 i0 i1
    go_enter Try.func15, Try.ntmps15
    go_wp2_with fail
    refine H.mono ?_; rintro e w1 ⟨v1, rfl, hd1, k1⟩
    obtain ⟨b0, b1, b2, b3, b4⟩ := cell5 (BX _ k1)
    have KD := KC _ _ k1 hd1
    clear KC BX SH H hd1 k1
    go_wp2_with fail
    refine Calls.mono (C _) ?_; rintro e w2 ⟨rfl, rfl⟩
    go_wp2_with fail
    refine KD.mono ?_; rintro e w3 ⟨rfl, hr⟩
    go_wp2
    go_ret
    exact ⟨rfl, hr⟩
  by_cases h5 : kind = 5
  · subst h5
    have C := fun w => varint_nil N n0 n1 w
    clear hle n0 n1 i0 i1
    go_enter Try.func15, Try.ntmps15
    go_wp2_with fail
    refine H.mono ?_; rintro e w1 ⟨v1, rfl, hd1, k1⟩
    obtain ⟨b0, b1, b2, b3, b4⟩ := cell5 (BX _ k1)
    have KD := KC _ _ k1 hd1
    clear KC BX SH H hd1 k1
    go_wp2_with fail
    refine Calls.mono (C _) ?_; rintro e w2 ⟨rfl, rfl⟩
    go_wp2_with fail
    refine KD.mono ?_; rintro e w3 ⟨rfl, hr⟩
    go_wp2
    go_ret
    exact ⟨rfl, hr⟩
  by_cases h6 : kind = 6
  · subst h6
    have C := fun w => signed_nil I i0 i1 w
    clear hle n0 n1 i0 i1
    go_enter Try.func15, Try.ntmps15
    go_wp2_with fail
    refine H.mono ?_; rintro e w1 ⟨v1, rfl, hd1, k1⟩
    obtain ⟨b0, b1, b2, b3, b4⟩ := cell5 (BX _ k1)
    have KD := KC _ _ k1 hd1
    clear KC BX SH H hd1 k1
    go_wp2_with fail
    refine Calls.mono (C _) ?_; rintro e w2 ⟨rfl, rfl⟩
    go_wp2_with fail
    refine KD.mono ?_; rintro e w3 ⟨rfl, hr⟩
    go_wp2
    go_ret
    exact ⟨rfl, hr⟩
  by_cases h7 : kind = 7
  · subst h7
    have C := fun w => flag_nil F w
    clear hle n0 n1 i0 i1
    go_enter Try.func15, Try.ntmps15
    go_wp2_with fail
    refine H.mono ?_; rintro e w1 ⟨v1, rfl, hd1, k1⟩
    obtain ⟨b0, b1, b2, b3, b4⟩ := cell5 (BX _ k1)
    have KD := KC _ _ k1 hd1
    clear KC BX SH H hd1 k1
    go_wp2_with fail
    refine Calls.mono (C _) ?_; rintro e w2 ⟨rfl, rfl⟩
    go_wp2_with fail
    refine KD.mono ?_; rintro e w3 ⟨rfl, hr⟩
    go_wp2
    go_ret
    exact ⟨rfl, hr⟩
  by_cases h8 : kind = 8
  · subst h8
    have C := fun w v1 a c (hv : v1 = Value.slice a bs.length c) => raw_nil hv w
    clear hle n0 n1 i0 i1
    go_enter Try.func15, Try.ntmps15
    go_wp2_with fail
    refine H.mono ?_; rintro e w1 ⟨v1, rfl, hd1, k1⟩
    obtain ⟨b0, b1, b2, b3, b4⟩ := cell5 (BX _ k1)
    have KD := KC _ _ k1 hd1
    have C2 : NilW 41 v1 w1 := by
      obtain ⟨a2, c2, hv2⟩ := SH _ _ _ hd1
      exact C w1 _ _ _ hv2
    clear C
    clear KC BX SH H hd1 k1
    go_wp2_with fail
    refine Calls.mono C2 ?_; rintro e w2 ⟨rfl, rfl⟩
    go_wp2_with fail
    refine KD.mono ?_; rintro e w3 ⟨rfl, hr⟩
    go_wp2
    go_ret
    exact ⟨rfl, hr⟩
  by_cases h9 : kind = 9
  · subst h9
    have C := fun w v1 a c (hv : v1 = Value.slice a bs.length c) => block_nil hv hle w
    clear hle n0 n1 i0 i1
    go_enter Try.func15, Try.ntmps15
    go_wp2_with fail
    refine H.mono ?_; rintro e w1 ⟨v1, rfl, hd1, k1⟩
    obtain ⟨b0, b1, b2, b3, b4⟩ := cell5 (BX _ k1)
    have KD := KC _ _ k1 hd1
    have C2 : NilW 42 v1 w1 := by
      obtain ⟨a2, c2, hv2⟩ := SH _ _ _ hd1
      exact C w1 _ _ _ hv2
    clear C
    clear KC BX SH H hd1 k1
    go_wp2_with fail
    refine Calls.mono C2 ?_; rintro e w2 ⟨rfl, rfl⟩
    go_wp2_with fail
    refine KD.mono ?_; rintro e w3 ⟨rfl, hr⟩
    go_wp2
    go_ret
    exact ⟨rfl, hr⟩
  go_enter Try.func15, Try.ntmps15
  go_wp2_with fail
  refine H.mono ?_; rintro e w1 ⟨v1, rfl, hd1, k1⟩
  obtain ⟨b0, b1, b2, b3, b4⟩ := cell5 (BX _ k1)
  have KD := KC _ _ k1 hd1
  clear KC BX SH H hd1 k1 hle n0 n1 i0 i1
  go_wp2_with fail
  refine KD.mono ?_; rintro e w3 ⟨rfl, hr⟩
  go_wp2
  go_ret
  exact ⟨rfl, hr⟩
end Go.Proofs.Ytgaehpdlljlliaa.Cd
