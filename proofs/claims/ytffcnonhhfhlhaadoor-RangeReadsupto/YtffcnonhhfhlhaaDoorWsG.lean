import Derived.Test.YtffcnonhhfhlhaaDoorWsI
namespace Go.Proofs.YtffcnonhhfhlhaaDoor.Ws
open Go.RowKit Go.Shelf Go.Sort
open Go.Proofs.YtffcnonhhfhlhaaDoor.It
open Go.Proofs.YtffcnonhhfhlhaaDoor.Rg (Kp Nu Sg cells)
attribute [local go_sem] Oper.semAt_some
set_option linter.unusedVariables false
/-- what Read answers -/
def RdR (w w' : World) (lim : Int) (l : List UInt8) (p : Value) (at_ c : Int) : Prop :=
  (¬ (1 ≤ lim ∧ lim ≤ 8192) ∧ p = .pointer none ∧ at_ = 0 ∧ c = 63) ∨
  ((1 ≤ lim ∧ lim ≤ 8192) ∧ ∃ pre x, pre ++ [x] <+: spl 32 l ∧ (∀ y ∈ pre, segF y ≠ none) ∧ segF x = none ∧ p = .pointer none ∧ at_ = (off pre : Int) ∧ c = 64) ∨
  ((1 ≤ lim ∧ lim ≤ 8192) ∧ ∃ S i w0, Pok S (spl 32 l) ∧ w.heap.size ≤ w0.heap.size ∧ Rg.Lrs w0 w' lim S p i c ∧ ((c = 0 ∧ at_ = 0) ∨ (c ≠ 0 ∧ i = (S.length : Int) ∧ at_ = (l.length : Int)) ∨ (c ≠ 0 ∧ ∃ k : Nat, k < S.length ∧ i = (k : Int) ∧ at_ = (off ((spl 32 l).take k) : Int))))
theorem six_al (w : World) : ∃ V, (((((w.alloc (.cells #[.pointer none] 27)).alloc (.cells #[.int .i64 0] 3)).alloc (.cells #[.int .i64 0] 42)).alloc (.cells #[.slice none 0 0] 22)).alloc (.cells #[.slice none 0 0] 115)).alloc (.cells #[.int .i64 0] 3) = V ∧ V.heap.size = w.heap.size + 6 ∧ V.heap[w.heap.size]? = some (.cells #[.pointer none] 27 (0, 0)) ∧ V.heap[w.heap.size + 1]? = some (.cells #[.int .i64 0] 3 (0, 0)) ∧ V.heap[w.heap.size + 1 + 1]? = some (.cells #[.int .i64 0] 42 (0, 0)) ∧ V.heap[w.heap.size + 1 + 1 + 1]? = some (.cells #[.slice none 0 0] 22 (0, 0)) ∧ V.heap[w.heap.size + 1 + 1 + 1 + 1]? = some (.cells #[.slice none 0 0] 115 (0, 0)) ∧ V.heap[w.heap.size + 1 + 1 + 1 + 1 + 1]? = some (.cells #[.int .i64 0] 3 (0, 0)) ∧ Kp Nu w V := by
  refine ⟨_, rfl, by simp, ?_, ?_, ?_, ?_, ?_, ?_, ?_⟩
  · exact (Below.heap_alloc _ _ _ (by first | (simp; done) | (simp; omega))).trans ((Below.heap_alloc _ _ _ (by first | (simp; done) | (simp; omega))).trans ((Below.heap_alloc _ _ _ (by first | (simp; done) | (simp; omega))).trans ((Below.heap_alloc _ _ _ (by first | (simp; done) | (simp; omega))).trans ((Below.heap_alloc _ _ _ (by simp)).trans (heap_alloc_new _ _)))))
  · exact (Below.heap_alloc _ _ _ (by first | (simp; done) | (simp; omega))).trans ((Below.heap_alloc _ _ _ (by first | (simp; done) | (simp; omega))).trans ((Below.heap_alloc _ _ _ (by first | (simp; done) | (simp; omega))).trans ((Below.heap_alloc _ _ _ (by simp)).trans (by have := heap_alloc_new (w.alloc (.cells #[.pointer none] 27)) (.cells #[.int .i64 0] 3); simpa using this))))
  · exact (Below.heap_alloc _ _ _ (by first | (simp; done) | (simp; omega))).trans ((Below.heap_alloc _ _ _ (by first | (simp; done) | (simp; omega))).trans ((Below.heap_alloc _ _ _ (by simp)).trans (by have := heap_alloc_new ((w.alloc (.cells #[.pointer none] 27)).alloc (.cells #[.int .i64 0] 3)) (.cells #[.int .i64 0] 42); simpa using this)))
  · exact (Below.heap_alloc _ _ _ (by first | (simp; done) | (simp; omega))).trans ((Below.heap_alloc _ _ _ (by simp)).trans (by have := heap_alloc_new (((w.alloc (.cells #[.pointer none] 27)).alloc (.cells #[.int .i64 0] 3)).alloc (.cells #[.int .i64 0] 42)) (.cells #[.slice none 0 0] 22); simpa using this))
  · exact (Below.heap_alloc _ _ _ (by simp)).trans (by have := heap_alloc_new ((((w.alloc (.cells #[.pointer none] 27)).alloc (.cells #[.int .i64 0] 3)).alloc (.cells #[.int .i64 0] 42)).alloc (.cells #[.slice none 0 0] 22)) (.cells #[.slice none 0 0] 115); simpa using this)
  · have := heap_alloc_new (((((w.alloc (.cells #[.pointer none] 27)).alloc (.cells #[.int .i64 0] 3)).alloc (.cells #[.int .i64 0] 42)).alloc (.cells #[.slice none 0 0] 22)).alloc (.cells #[.slice none 0 0] 115)) (.cells #[.int .i64 0] 3); simpa using this
  · exact (((((Rg.Kp.alloc w _ Nu).andNu (Rg.Kp.alloc _ _ Nu)).andNu (Rg.Kp.alloc _ _ Nu)).andNu (Rg.Kp.alloc _ _ Nu)).andNu (Rg.Kp.alloc _ _ Nu)).andNu (Rg.Kp.alloc _ _ Nu)
set_option maxRecDepth 100000 in
set_option maxHeartbeats 2000000 in
theorem read32 (l : List UInt8) (hl : l.length ≤ 1048576) (lim : Int) (w : World) (hlim : 1 ≤ lim ∧ lim ≤ 8192) :
    Calls Tryd.prog 32 #[str l, .int .i64 lim] w fun e w' => ∃ p at_ c, e = .returned (.tuple #[p, .int .i64 at_, .int .i64 c]) ∧ RdR w w' lim l p at_ c ∧ Kp Nu w w' := by
  have mixed : Tryd.prog.follows .mixedOrders = true := by kernel_rfl
  have LI := fun W => Rg.limit_ok lim W hlim.1 hlim.2
  obtain ⟨w0, ew0, hsz0, x4, x5, x6, x7, x8, x9, k0⟩ := six_al w
  have SP := splitSeq64 l w0
  have HL := hide (And.intro hlim hl)
  have hI0 : Hid (∀ w1, Kp Nu w0 w1 → (∃ u, w1.heap[w.heap.size + 6]? = some (.cells #[u] 9 (0, 0))) → RI w w1.heap.size [] w1) := hide (fun w1 k hb => ⟨⟨.slice none 0 0, .slice none 0 0, [], rfl, (k.block _ (Rg.blk_lt x7) (fun e => e)).trans x7, (k.block _ (Rg.blk_lt x8) (fun e => e)).trans x8, World.ownsRow_nil _ _ _ _, World.ownsRow_nil _ _ _ _⟩, (k.block _ (Rg.blk_lt x9) (fun e => e)).trans x9, (k.block _ (Rg.blk_lt x4) (fun e => e)).trans x4, (k.block _ (Rg.blk_lt x5) (fun e => e)).trans x5, (k.block _ (Rg.blk_lt x6) (fun e => e)).trans x6, hb, (k0.andNu k).toBelow, Nat.le_refl _⟩)
  rw [hsz0] at SP
  have HK0 := hide (And.intro k0 hsz0)
  have HE := hide ew0
  clear hlim hl x4 x5 x6 x7 x8 x9 k0 ew0
  refine (callsIn_wide (n := 4)).1 ?_
  refine callsIn_of_wp_marks Tryd.func32 rfl trivial ?_ rfl
  simp only [Tryd.ntmps32, List.size_toArray, List.length_cons, List.length_nil, Nat.reduceAdd, Nat.reduceSub, Array.replicate_succ, Array.replicate_zero, List.push_toArray, List.append_toArray, List.nil_append, List.cons_append]
  unfold str at SP ⊢
  gi_wp2_with fail
  refine ⟨trivial, (callsIn_wide.2 (LI _)).mono ?_⟩
  rintro e w' ⟨rfl, hw'⟩; obtain rfl := hw'.symm
  gi_wp2_with fail
  rw [HE.out]
  refine ⟨trivial, (callsIn_wide.2 SP).mono ?_⟩
  rintro e w1 ⟨rfl, y1, y2, y3, k1⟩
  have SQ := split_s (w.heap.size + 6 + 1) (w.heap.size + 6) (w.heap.size + 6 + 2) l (by have := HL.out.2; omega) ⟨by omega, by omega⟩ w1 y2 y1 y3
  have R0 := hI0.out w1 k1 ⟨_, y1⟩
  have K1 := HK0.out.1.andNu k1
  have hs0 : w.heap.size ≤ w1.heap.size := K1.size
  have Y1 := hide (And.intro y1 (And.intro y2 (And.intro y3 K1)))
  clear SP y1 y2 y3 k1 hI0 LI
  gi_wp2_with fail
  refine range_s (gf := 101) rfl (enters_of Tryd.func101 (by kernel_rfl) rfl) SQ (Below.refl _ _) (fun _ => rfl)
    (fun pre V => RI w w1.heap.size pre V) (fun pre W1 v u t h _ => h.box v) (fun c pre V => RX w c pre V)
    (RI.own hs0) (fun c => RX.own hs0) R0
    (fun x a' V => a' = { tmps := #[.string ⟨l.toArray⟩, .int .i64 lim, undef, undef, .pointer (some ⟨w.heap.size, 0, none⟩), .pointer (some ⟨w.heap.size + 1, 0, none⟩), .pointer (some ⟨w.heap.size + 1 + 1, 0, none⟩), .pointer (some ⟨w.heap.size + 1 + 1 + 1, 0, none⟩), .pointer (some ⟨w.heap.size + 1 + 1 + 1 + 1, 0, none⟩), .pointer (some ⟨w.heap.size + 1 + 1 + 1 + 1 + 1, 0, none⟩), str x, undef, undef, undef, undef, undef, .int .i64 lim, .bool true, .bool false, .string ⟨l.toArray⟩, .func (.func 101) #[] #[.pointer (some ⟨w.heap.size + 6 + 1, 0, none⟩), .pointer (some ⟨w.heap.size + 6, 0, none⟩), .pointer (some ⟨w.heap.size + 6 + 2, 0, none⟩)], str x, undef, undef, undef, undef, undef, undef, undef, undef, undef, undef, undef, undef, undef, undef, undef, undef, undef, undef, undef, undef, undef, undef, undef, undef, undef, undef, undef, undef, undef, undef, undef, undef, undef, undef, undef, undef, undef, undef, undef, undef, undef, undef, undef, undef, undef], defers := [] })
    (fun x a' _ X Z row hs hg hr => hs)
    ?assign1 ?body1 ?done1 ?stop1
  case assign1 =>
    rintro l' pre x V K hI hK
    gi_wp2
    exact hK _ _ (Rg.kf_nu _ (Rg.Kp.refl Nu V)) (Rg.kc_nu (Rg.Kp.refl Nu V)) hI rfl
  case body1 =>
    rintro l' pre x a' V hl' hq hI rfl hpre
    have hoff := off_le hpre
    have hxl : x.length ≤ 1048576 := by
      have := HL.out.2
      rw [off_app] at hoff
      simp only [off] at hoff
      omega
    have SG := segmentOf65 ⟨x.toArray⟩ V (by simp [ByteArray.size]; omega)
    simp only at SG
    unfold str
    have HI := hide (And.intro hI (And.intro hpre (And.intro hoff hxl)))
    have HQ := hide (And.intro hl' hq)
    clear hI hpre hoff hxl hl' hq SQ R0
    gi_wp2_with fail
    refine ⟨trivial, (CallsIn.inRound l' (callsIn_wide.2 SG)).mono ?_⟩
    rintro e V1 ⟨hcase, kV1⟩
    rcases hcase with ⟨hno, rfl⟩ | ⟨g, hg, rfl⟩
    · have kA := Rg.Kp.alloc V1 (.cells #[.int .u64 0, .int .u64 0, .int .u8 0] 26) Nu
      obtain ⟨V2, eV2⟩ : ∃ V2, V1.alloc (.cells #[.int .u64 0, .int .u64 0, .int .u8 0] 26) = V2 := ⟨_, rfl⟩
      have HE2 := hide eV2
      rw [eV2] at kA
      have R2 := HI.out.1.nu (kV1.andNu kA)
      have c9 := Rg.cell1 R2.b9
      have c5 := Rg.cell1 R2.b5
      have c4 := Rg.cell1 R2.b4
      have c6 := Rg.cell1 R2.b6
      have f4 := Rg.free3 R2.b4 0
      have f5 := Rg.free3 R2.b5 0
      have f6 := Rg.free3 R2.b6 0
      have H2 := hide (And.intro R2 (kV1.andNu kA))
      have HN := hide hno
      have d9 : (V2.setCell ⟨w.heap.size, 0, none⟩ (.pointer none)).cell? ⟨w.heap.size + 1 + 1 + 1 + 1 + 1, 0, none⟩ = some (.int .i64 (off pre : Int)) := Rg.cell1 ((set_other _ _ _ _ (by omega)).trans R2.b9)
      have hf5 := (set_other V2 w.heap.size (.pointer none) (w.heap.size + 1) (by omega)).trans R2.b5
      have d5 := Rg.cell1 hf5
      have g5 := Rg.free3 hf5 0
      have hf6 := (set_other (V2.setCell ⟨w.heap.size, 0, none⟩ (.pointer none)) (w.heap.size + 1) (.int .i64 (off pre : Int)) (w.heap.size + 1 + 1) (by omega)).trans ((set_other V2 w.heap.size (.pointer none) (w.heap.size + 1 + 1) (by omega)).trans R2.b6)
      have d6 := Rg.cell1 hf6
      have g6 := Rg.free3 hf6 0
      have HXX := hide (rx_drew (rx_mk (C := w1.heap.size) (x := x) HI.out.1 (kV1.andNu kA) hno))
      clear SG kV1 kA R2 hno eV2 hf5 hf6 H2
      gi_wp2_with fail
      rw [HE2.out]
      gi_region_o
      all_goals gi_wp2
      all_goals exact HXX.out
    · have kA := Rg.Kp.alloc V1 (.cells #[.int .u64 g.lo, .int .u64 g.hi, .int .u8 g.h] 26) Nu
      have xA := heap_alloc_new V1 (.cells #[.int .u64 g.lo, .int .u64 g.hi, .int .u8 g.h] 26)
      obtain ⟨V2, eV2⟩ : ∃ V2, V1.alloc (.cells #[.int .u64 g.lo, .int .u64 g.hi, .int .u8 g.h] 26) = V2 := ⟨_, rfl⟩
      have HE2 := hide eV2
      rw [eV2] at kA xA
      obtain ⟨bX, ebX⟩ : ∃ bX, V1.heap.size = bX := ⟨_, rfl⟩
      rw [ebX] at xA
      have R2 := HI.out.1.nu (kV1.andNu kA)
      obtain ⟨sv, bv, S, hPok, r7, r8, rS, rB⟩ := R2.ex
      obtain ⟨N, eN⟩ : ∃ N, S.length = N := ⟨_, rfl⟩
      rw [eN] at rS rB
      obtain ⟨sa, sc, esv⟩ := Rg.own_slice rS
      obtain ⟨ba, bc, ebv⟩ := Rg.own_slice rB
      subst esv
      subst ebv
      obtain ⟨B1, eB1⟩ : ∃ B1, w1.heap.size = B1 := ⟨_, rfl⟩
      have hB9 : w.heap.size + 9 ≤ B1 := by
        have := Rg.blk_lt Y1.out.2.2.1
        omega
      have HR : Hid (Rgn w V2 B1 sa sc ba bc N bX S pre g) := hide ⟨r7, r8, R2.b9, xA, by rw [← eB1]; exact rS, by rw [← eB1]; exact rB, fun e => by
        obtain ⟨sv', bv', S', _, t7, _, tS, _⟩ := (HI.out.1.nu kV1).ex
        have u7 := (kA.block _ (Rg.blk_lt t7) (fun x => x)).trans t7
        rw [u7] at r7
        cases r7
        have := Rg.own_lt tS e.symm
        omega, hB9, by rw [← eB1]; exact R2.sz, by
        have h1 := hPok.len
        have h2 := len_le_off pre
        have h3 := HI.out.2.2.1
        rw [off_app] at h3
        have h4 := HL.out.2
        rw [← eN, h1]
        omega⟩
      have H2 := hide (And.intro R2 (And.intro (kV1.andNu kA) (And.intro hPok (And.intro eN (And.intro eB1 hg)))))
      have eX : V1.heap.size = bX := ebX
      clear SG eV2 R2 hPok r7 r8 rS rB eN kV1 kA xA hg eB1 hB9
      gi_wp2_with fail
      rw [HE2.out]
      try rw [eX]
      refine wpIn_region_any (by assumption) ?_
      change wpAnyIn _ _ _ _ _ _ _ _ _ (World.drew _)
      refine Ord.wpAnyIn_inv (Inv := fun listed a w' => ∃ (l0 l1 l2 l3 l4 l5 l6 l7 l8 l9 : Bool) (Bs Bi : Nat) (va : Option Addr) (vc : Nat) (ua : Option Addr) (uc : Nat), listed = #[l0, l1, l2, l3, l4, l5, l6, l7, l8, l9] ∧ a = { tmps := #[.string ⟨l.toArray⟩, .int .i64 lim, undef, undef, .pointer (some ⟨w.heap.size, 0, none⟩), .pointer (some ⟨w.heap.size + 1, 0, none⟩), .pointer (some ⟨w.heap.size + 1 + 1, 0, none⟩), .pointer (some ⟨w.heap.size + 1 + 1 + 1, 0, none⟩), .pointer (some ⟨w.heap.size + 1 + 1 + 1 + 1, 0, none⟩), .pointer (some ⟨w.heap.size + 1 + 1 + 1 + 1 + 1, 0, none⟩), .string ⟨x.toArray⟩, .pointer (some ⟨bX, 0, none⟩), .bool true, undef, undef, undef, .int .i64 lim, .bool true, .bool false, .string ⟨l.toArray⟩, .func (.func 101) #[] #[.pointer (some ⟨w.heap.size + 6 + 1, 0, none⟩), .pointer (some ⟨w.heap.size + 6, 0, none⟩), .pointer (some ⟨w.heap.size + 6 + 2, 0, none⟩)], .string ⟨x.toArray⟩, .tuple #[.agg #[.int .u64 g.lo, .int .u64 g.hi, .int .u8 g.h], .bool true], .string ⟨x.toArray⟩, .tuple #[.agg #[.int .u64 g.lo, .int .u64 g.hi, .int .u8 g.h], .bool true], .agg #[.int .u64 g.lo, .int .u64 g.hi, .int .u8 g.h], .bool true, .bool true, .bool false, undef, Ord.sel l0 (.slice sa N sc), Ord.sel l1 (.agg #[.int .u64 g.lo, .int .u64 g.hi, .int .u8 g.h]), Ord.sel l2 (.slice (some ⟨Bs, 0, none⟩) 1 1), Ord.sel l3 (.slice va (N + 1) vc), Ord.sel l4 (.slice ba N bc), Ord.sel l5 (.int .i64 (off pre : Int)), Ord.sel l6 (.slice (some ⟨Bi, 0, none⟩) 1 1), Ord.sel l7 (.slice ua (N + 1) uc), undef, undef, undef, undef, undef, undef, undef, undef, undef, undef, undef, undef, undef, undef, undef, undef, undef, undef, undef, undef, undef, undef, undef, undef, undef, undef, undef, undef, undef], defers := [] } ∧ (l2 = true → l1 = true) ∧ (l3 = true → l0 = true ∧ l2 = true) ∧ (l6 = true → l5 = true) ∧ (l7 = true → l4 = true ∧ l6 = true ∧ l3 = true) ∧ (l8 = true → l7 = true) ∧ (l9 = true → l8 = true) ∧ (l7 = false → Hid (Ph V2 B1 sa sc N S g l3 va vc w')) ∧ (l2 = true → l3 = false → Hid (BsF g Bs w')) ∧ (l6 = true → l7 = false → Hid (BiF pre Bi w')) ∧ (l7 = true → l8 = false → Hid (O7 V2 B1 sa sc ba bc N S pre g va vc ua uc w')) ∧ (l8 = true → l9 = false → Hid (O8 w V2 B1 sa sc ba bc N S pre g va vc ua uc w')) ∧ (l9 = true → Hid (O9 w V2 B1 sa sc ba bc N S pre g va vc ua uc w'))) ?step ?fin _ _ _ _ ?start ?count
      case start => exact ⟨false, false, false, false, false, false, false, false, false, false, 0, 0, none, 0, none, 0, rfl, rfl, (fun h => by cases h), (fun h => by cases h), (fun h => by cases h), (fun h => by cases h), (fun h => by cases h), (fun h => by cases h), fun _ => hide (show Ph V2 B1 sa sc N S g false none 0 _ by unfold Ph; rw [if_neg (by simp)]; exact (Rg.Kp.refl Nu V2).drew), (fun h => by cases h), (fun h => by cases h), (fun h => by cases h), (fun h => by cases h), (fun h => by cases h)⟩
      case count => decide
      case step =>
        rintro listed a w' i ⟨l0, l1, l2, l3, l4, l5, l6, l7, l8, l9, Bs, Bi, va, vc, ua, uc, rfl, rfl, c2, c3, c6, c7, c8, c9, hP, hS, hB, h7, h8, h9⟩ hi'
        obtain ⟨hlt', hb⟩ := Ord.mem_ready hi'
        rcases lt_cases10 hlt' with rfl | rfl | rfl | rfl | rfl | rfl | rfl | rfl | rfl | rfl
        all_goals simp [Region.binds] at hb
        · have q0 := hb
          have f3 : l3 = false := by cases hh : l3 with | false => rfl | true => exact absurd ((c3 hh).1) (by rw [q0]; simp)
          have f7 : l7 = false := by cases hh : l7 with | false => rfl | true => exact absurd ((c7 hh).2.2) (by rw [f3]; simp)
          have f8 : l8 = false := by cases hh : l8 with | false => rfl | true => exact absurd ((c8 hh)) (by rw [f7]; simp)
          have f9 : l9 = false := by cases hh : l9 with | false => rfl | true => exact absurd ((c9 hh)) (by rw [f8]; simp)
          clear hi' hlt'
          subst q0 f3 f7 f8 f9
          have H2c := hide c2; clear c2
          clear c3
          have H6c := hide c6; clear c6
          clear c7
          clear c8
          clear c9
          obtain ⟨z0, z1, z2, z3⟩ := HR.out.c7X (ph_f (hP rfl).out)
          have HP := hide hP; have HB := hide hB; have HS := hide hS; clear hP hS hB h7 h8 h9
          refine wpOpIn_step rfl (fun K hK => ?_)
          simp only [Ord.sel_f]
          go_simp
          refine hK _ _ ?_
          exact ⟨true, _, _, false, _, _, _, false, false, false, Bs, Bi, va, vc, ua, uc, rfl, rfl, H2c.out, (fun h => by cases h), H6c.out, (fun h => by cases h), (fun h => by cases h), (fun h => by cases h), HP.out, HS.out, HB.out, (fun h => by cases h), (fun h => by cases h), (fun h => by cases h)⟩
        · have q1 := hb
          have f2 : l2 = false := by cases hh : l2 with | false => rfl | true => exact absurd ((c2 hh)) (by rw [q1]; simp)
          have f3 : l3 = false := by cases hh : l3 with | false => rfl | true => exact absurd ((c3 hh).2) (by rw [f2]; simp)
          have f7 : l7 = false := by cases hh : l7 with | false => rfl | true => exact absurd ((c7 hh).2.2) (by rw [f3]; simp)
          have f8 : l8 = false := by cases hh : l8 with | false => rfl | true => exact absurd ((c8 hh)) (by rw [f7]; simp)
          have f9 : l9 = false := by cases hh : l9 with | false => rfl | true => exact absurd ((c9 hh)) (by rw [f8]; simp)
          clear hi' hlt'
          subst q1 f2 f3 f7 f8 f9
          clear c2
          clear c3
          have H6c := hide c6; clear c6
          clear c7
          clear c8
          clear c9
          obtain ⟨z0, z1, z2, z3⟩ := HR.out.c7X (ph_f (hP rfl).out)
          have HP := hide hP; have HB := hide hB; clear hP hS hB h7 h8 h9
          refine wpOpIn_step rfl (fun K hK => ?_)
          simp only [Ord.sel_f]
          go_simp
          refine hK _ _ ?_
          exact ⟨_, true, false, false, _, _, _, false, false, false, Bs, Bi, va, vc, ua, uc, rfl, rfl, (fun h => by cases h), (fun h => by cases h), H6c.out, (fun h => by cases h), (fun h => by cases h), (fun h => by cases h), HP.out, (fun h => by cases h), HB.out, (fun h => by cases h), (fun h => by cases h), (fun h => by cases h)⟩
        · obtain ⟨q2, e1⟩ := hb
          have f3 : l3 = false := by cases hh : l3 with | false => rfl | true => exact absurd ((c3 hh).2) (by rw [q2]; simp)
          have f7 : l7 = false := by cases hh : l7 with | false => rfl | true => exact absurd ((c7 hh).2.2) (by rw [f3]; simp)
          have f8 : l8 = false := by cases hh : l8 with | false => rfl | true => exact absurd ((c8 hh)) (by rw [f7]; simp)
          have f9 : l9 = false := by cases hh : l9 with | false => rfl | true => exact absurd ((c9 hh)) (by rw [f8]; simp)
          clear hi' hlt'
          subst q2 e1 f3 f7 f8 f9
          clear c2
          clear c3
          have H6c := hide c6; clear c6
          clear c7
          clear c8
          clear c9
          have hk := ph_f (hP rfl).out
          have HB := hide hB; clear hP hS hB h7 h8 h9
          refine wpOpIn_step rfl (fun K hK => ?_)
          simp only [Ord.sel_t, Ord.sel_f]
          go_simp
          refine hK _ _ ?_
          exact ⟨_, true, true, false, _, _, _, false, false, false, _, Bi, va, vc, ua, uc, rfl, rfl, fun _ => rfl, (fun h => by cases h), H6c.out, (fun h => by cases h), (fun h => by cases h), (fun h => by cases h), (fun _ => hide (Ph.alloc (by unfold Ph; rw [if_neg (by simp)]; exact hk) _)), (fun _ _ => hide (heap_alloc_new _ _)), (fun ha hb => hide ((HB.out ha hb).out.alloc _)), (fun h => by cases h), (fun h => by cases h), (fun h => by cases h)⟩
        · obtain ⟨q3, e0, e2⟩ := hb
          obtain e1 := c2 e2
          have f7 : l7 = false := by cases hh : l7 with | false => rfl | true => exact absurd ((c7 hh).2.2) (by rw [q3]; simp)
          have f8 : l8 = false := by cases hh : l8 with | false => rfl | true => exact absurd ((c8 hh)) (by rw [f7]; simp)
          have f9 : l9 = false := by cases hh : l9 with | false => rfl | true => exact absurd ((c9 hh)) (by rw [f8]; simp)
          clear hi' hlt'
          subst q3 e0 e1 e2 f7 f8 f9
          clear c2
          clear c3
          have H6c := hide c6; clear c6
          clear c7
          clear c8
          clear c9
          obtain ⟨va', vc', W2, hrun, hA, hBk⟩ := HR.out.ap3 (ph_f (hP rfl).out) (hS rfl rfl).out
          have HB := hide hB; clear hP hS hB h7 h8 h9
          simp only [Ord.sel_t, Ord.sel_f]
          refine Ord.wpOpIn_append rfl rfl (.tmp 30) (.tmp 32) 22 rfl _ _ _ rfl rfl hrun ?_
          exact ⟨true, true, true, true, _, _, _, false, false, false, Bs, Bi, va', vc', ua, uc, rfl, rfl, fun _ => rfl, fun _ => ⟨rfl, rfl⟩, H6c.out, (fun h => by cases h), (fun h => by cases h), (fun h => by cases h), (fun _ => hide (ph_mk hA)), (fun _ h => by cases h), (fun ha hb => hide (hBk _ (HB.out ha hb).out)), (fun h => by cases h), (fun h => by cases h), (fun h => by cases h)⟩
        · have q4 := hb
          have f7 : l7 = false := by cases hh : l7 with | false => rfl | true => exact absurd ((c7 hh).1) (by rw [q4]; simp)
          have f8 : l8 = false := by cases hh : l8 with | false => rfl | true => exact absurd ((c8 hh)) (by rw [f7]; simp)
          have f9 : l9 = false := by cases hh : l9 with | false => rfl | true => exact absurd ((c9 hh)) (by rw [f8]; simp)
          clear hi' hlt'
          subst q4 f7 f8 f9
          have H2c := hide c2; clear c2
          have H3c := hide c3; clear c3
          have H6c := hide c6; clear c6
          clear c7
          clear c8
          clear c9
          obtain ⟨z0, z1⟩ := Ph.c89 HR.out (hP rfl).out
          have HP := hide hP; have HS := hide hS; have HB := hide hB; clear hP hS hB h7 h8 h9
          refine wpOpIn_step rfl (fun K hK => ?_)
          simp only [Ord.sel_f]
          go_simp
          refine hK _ _ ?_
          exact ⟨_, _, _, _, true, _, _, false, false, false, Bs, Bi, va, vc, ua, uc, rfl, rfl, H2c.out, H3c.out, H6c.out, (fun h => by cases h), (fun h => by cases h), (fun h => by cases h), HP.out, HS.out, HB.out, (fun h => by cases h), (fun h => by cases h), (fun h => by cases h)⟩
        · have q5 := hb
          have f6 : l6 = false := by cases hh : l6 with | false => rfl | true => exact absurd ((c6 hh)) (by rw [q5]; simp)
          have f7 : l7 = false := by cases hh : l7 with | false => rfl | true => exact absurd ((c7 hh).2.1) (by rw [f6]; simp)
          have f8 : l8 = false := by cases hh : l8 with | false => rfl | true => exact absurd ((c8 hh)) (by rw [f7]; simp)
          have f9 : l9 = false := by cases hh : l9 with | false => rfl | true => exact absurd ((c9 hh)) (by rw [f8]; simp)
          clear hi' hlt'
          subst q5 f6 f7 f8 f9
          have H2c := hide c2; clear c2
          have H3c := hide c3; clear c3
          clear c6
          clear c7
          clear c8
          clear c9
          obtain ⟨z0, z1⟩ := Ph.c89 HR.out (hP rfl).out
          have HP := hide hP; have HS := hide hS; clear hP hS hB h7 h8 h9
          refine wpOpIn_step rfl (fun K hK => ?_)
          simp only [Ord.sel_f]
          go_simp
          refine hK _ _ ?_
          exact ⟨_, _, _, _, _, true, false, false, false, false, Bs, Bi, va, vc, ua, uc, rfl, rfl, H2c.out, H3c.out, (fun h => by cases h), (fun h => by cases h), (fun h => by cases h), (fun h => by cases h), HP.out, HS.out, (fun h => by cases h), (fun h => by cases h), (fun h => by cases h), (fun h => by cases h)⟩
        · obtain ⟨q6, e5⟩ := hb
          have f7 : l7 = false := by cases hh : l7 with | false => rfl | true => exact absurd ((c7 hh).2.1) (by rw [q6]; simp)
          have f8 : l8 = false := by cases hh : l8 with | false => rfl | true => exact absurd ((c8 hh)) (by rw [f7]; simp)
          have f9 : l9 = false := by cases hh : l9 with | false => rfl | true => exact absurd ((c9 hh)) (by rw [f8]; simp)
          clear hi' hlt'
          subst q6 e5 f7 f8 f9
          have H2c := hide c2; clear c2
          have H3c := hide c3; clear c3
          clear c6
          clear c7
          clear c8
          clear c9
          have HP := hide hP; have HS := hide hS; clear hP hS hB h7 h8 h9
          refine wpOpIn_step rfl (fun K hK => ?_)
          simp only [Ord.sel_t, Ord.sel_f]
          go_simp
          refine hK _ _ ?_
          exact ⟨_, _, _, _, _, true, true, false, false, false, Bs, _, va, vc, ua, uc, rfl, rfl, H2c.out, H3c.out, fun _ => rfl, (fun h => by cases h), (fun h => by cases h), (fun h => by cases h), (fun _ => hide ((HP.out rfl).out.alloc _)), (fun ha hb => hide ((HS.out ha hb).out.alloc _)), (fun _ _ => hide (heap_alloc_new _ _)), (fun h => by cases h), (fun h => by cases h), (fun h => by cases h)⟩
        · obtain ⟨q7, e4, e6, e3⟩ := hb
          obtain e5 := c6 e6
          obtain ⟨e0, e2⟩ := c3 e3
          obtain e1 := c2 e2
          have f8 : l8 = false := by cases hh : l8 with | false => rfl | true => exact absurd ((c8 hh)) (by rw [q7]; simp)
          have f9 : l9 = false := by cases hh : l9 with | false => rfl | true => exact absurd ((c9 hh)) (by rw [f8]; simp)
          clear hi' hlt'
          subst q7 e0 e1 e2 e3 e4 e5 e6 f8 f9
          clear c2
          clear c3
          clear c6
          clear c7
          clear c8
          clear c9
          obtain ⟨ua', uc', W2, hrun, hA⟩ := HR.out.ap7 (ph_t (hP rfl).out) (hB rfl rfl).out
          clear hP hS hB h7 h8 h9
          simp only [Ord.sel_t, Ord.sel_f]
          refine Ord.wpOpIn_append rfl rfl (.tmp 34) (.tmp 36) 115 rfl _ _ _ rfl rfl hrun ?_
          exact ⟨true, true, true, true, true, true, true, true, false, false, Bs, Bi, va, vc, ua', uc', rfl, rfl, fun _ => rfl, fun _ => ⟨rfl, rfl⟩, fun _ => rfl, fun _ => ⟨rfl, rfl, rfl⟩, (fun h => by cases h), (fun h => by cases h), (fun h => by cases h), (fun _ h => by cases h), (fun _ h => by cases h), (fun _ _ => hide hA), (fun h => by cases h), (fun h => by cases h)⟩
        · have q8 : l8 = false := by clear hP hS hB h7 h8 h9; (cases l8 <;> simp_all)
          have e7 : l7 = true := by clear hP hS hB h7 h8 h9; (cases l7 <;> simp_all)
          obtain ⟨e4, e6, e3⟩ := c7 e7
          obtain e5 := c6 e6
          obtain ⟨e0, e2⟩ := c3 e3
          obtain e1 := c2 e2
          have f9 : l9 = false := by cases hh : l9 with | false => rfl | true => exact absurd ((c9 hh)) (by rw [q8]; simp)
          clear hi' hlt' hb
          subst q8 e0 e1 e2 e3 e4 e5 e6 e7 f9
          clear c2
          clear c3
          clear c6
          clear c7
          clear c8
          clear c9
          have hO := (h7 rfl rfl).out
          have z7 := (O7.box HR.out hO).1
          have z0 := Rg.cell1 z7; have z1 := Rg.free3 z7 0
          have HA := hide hO; clear hP hS hB h7 h8 h9 hO z7
          refine wpOpIn_step rfl (fun K hK => ?_)
          simp only [Ord.sel_t]
          go_simp
          refine hK _ _ ?_
          exact ⟨true, true, true, true, true, true, true, true, true, false, Bs, Bi, va, vc, ua, uc, rfl, rfl, fun _ => rfl, fun _ => ⟨rfl, rfl⟩, fun _ => rfl, fun _ => ⟨rfl, rfl, rfl⟩, fun _ => rfl, (fun h => by cases h), (fun h => by cases h), (fun _ h => by cases h), (fun _ h => by cases h), (fun _ h => by cases h), (fun _ _ => hide ⟨_, HA.out, rfl⟩), (fun h => by cases h)⟩
        · have q9 : l9 = false := by clear hP hS hB h7 h8 h9; (cases l9 <;> simp_all)
          have e8 : l8 = true := by clear hP hS hB h7 h8 h9; (cases l8 <;> simp_all)
          obtain e7 := c8 e8
          obtain ⟨e4, e6, e3⟩ := c7 e7
          obtain e5 := c6 e6
          obtain ⟨e0, e2⟩ := c3 e3
          obtain e1 := c2 e2
          clear hi' hlt' hb
          subst q9 e0 e1 e2 e3 e4 e5 e6 e7 e8
          clear c2
          clear c3
          clear c6
          clear c7
          clear c8
          clear c9
          have hO := (h8 rfl rfl).out
          have z8 := O8.c8 HR.out hO
          have z0 := Rg.cell1 z8; have z1 := Rg.free3 z8 0
          have HA := hide hO; clear hP hS hB h7 h8 h9 hO z8
          refine wpOpIn_step rfl (fun K hK => ?_)
          simp only [Ord.sel_t]
          go_simp
          refine hK _ _ ?_
          obtain ⟨W7, hW7, eW⟩ := HA.out
          exact ⟨true, true, true, true, true, true, true, true, true, true, Bs, Bi, va, vc, ua, uc, rfl, rfl, fun _ => rfl, fun _ => ⟨rfl, rfl⟩, fun _ => rfl, fun _ => ⟨rfl, rfl, rfl⟩, fun _ => rfl, fun _ => rfl, (fun h => by cases h), (fun _ h => by cases h), (fun _ h => by cases h), (fun _ h => by cases h), (fun _ h => by cases h), (fun _ => hide ⟨W7, hW7, by rw [eW]⟩)⟩
      case fin =>
        rintro listed a w' ⟨l0, l1, l2, l3, l4, l5, l6, l7, l8, l9, Bs, Bi, va, vc, ua, uc, rfl, rfl, c2, c3, c6, c7, c8, c9, hP, hS, hB, h7, h8, h9⟩ hi'
        have hx := fun i => Ord.not_ready hi' (i := i)
        have g0 : l0 = true := by have g := hx 0 (by simp); simp [Region.binds] at g; exact g
        have g1 : l1 = true := by have g := hx 1 (by simp); simp [Region.binds] at g; exact g
        have g2 : l2 = true := by have g := hx 2 (by simp); simp [Region.binds] at g; cases hh : l2 with | true => rfl | false => exact absurd (g hh ) (by rw [g1]; simp)
        have g3 : l3 = true := by have g := hx 3 (by simp); simp [Region.binds] at g; cases hh : l3 with | true => rfl | false => exact absurd (g hh g0) (by rw [g2]; simp)
        have g4 : l4 = true := by have g := hx 4 (by simp); simp [Region.binds] at g; exact g
        have g5 : l5 = true := by have g := hx 5 (by simp); simp [Region.binds] at g; exact g
        have g6 : l6 = true := by have g := hx 6 (by simp); simp [Region.binds] at g; cases hh : l6 with | true => rfl | false => exact absurd (g hh ) (by rw [g5]; simp)
        have g7 : l7 = true := by have g := hx 7 (by simp); simp [Region.binds] at g; cases hh : l7 with | true => rfl | false => exact absurd (g hh g4 g6) (by rw [g3]; simp)
        have g8 : l8 = true := by have g := hx 8 (by simp); simp [Region.binds] at g; clear hP hS hB h7 h8 h9; (cases l8 <;> simp_all)
        have g9 : l9 = true := by have g := hx 9 (by simp); simp [Region.binds] at g; clear hP hS hB h7 h8 h9; (cases l9 <;> simp_all)
        subst g0 g1 g2 g3 g4 g5 g6 g7 g8 g9
        have hO := h9 rfl
        clear c2 c3 c6 c7 c8 c9 hi' hx hP hS hB h7 h8 h9
        simp only [Ord.sel_t]
        have z9 := O9.c9 HR.out hO.out
        have y9 := Rg.cell1 z9
        have f9 := Rg.free3 z9 0
        have hsize : (⟨x.toArray⟩ : ByteArray).size = x.length := by simp [ByteArray.size]
        have hox : Hid ((off (pre ++ [x]) : Int) = (off pre : Int) + ((x.length : Int) + 1)) := hide (by rw [off_app]; simp only [off]; omega)
        have hb1 : (off pre : Int) ≤ 1048577 := by
          have h3 := HI.out.2.2.1
          rw [off_app] at h3
          have h4 := HL.out.2
          omega
        have hb2 : (x.length : Int) ≤ 1048576 := by have := HI.out.2.2.2; omega
        obtain ⟨q1, q2⟩ := kw ((x.length : Int) + 1) (by omega) (by omega)
        obtain ⟨q3, q4⟩ := kw ((off pre : Int) + ((x.length : Int) + 1)) (by omega) (by omega)
        have hI1 := HI.out.1
        rw [H2.out.2.2.2.2.1] at hI1
        have ST0 := ri_step (C := w1.heap.size) (x := x) hI1 H2.out.2.1 HR.out H2.out.2.2.1 H2.out.2.2.2.1 H2.out.2.2.2.2.2 hO.out
        rw [hox.out, ← H2.out.2.2.2.2.1] at ST0
        have ST := hide ST0
        clear ST0 hI1 z9 hO HR H2 hox
        gi_wp2
        exact ST.out
  case done1 =>
    rintro D ys V hD rfl hI hK
    obtain ⟨sv, bv, S, hPok, r7, r8, rS, rB⟩ := hI.ex
    have hkD : Hid (Kp Nu w (V.putObj D (.deferred none)) ∧ D ≠ w.heap.size ∧ D ≠ w.heap.size + 1) := hide ⟨Rg.Kp.of_below (hI.be.trans (belowK_b (w := w) (Nat.le_refl _) V D _ _ (Nat.le_trans hs0 hD) hK rfl rfl)), fun e => (by rw [e, hI.b4] at hK; cases hK), fun e => (by rw [e, hI.b5] at hK; cases hK)⟩
    obtain ⟨NS, eNS⟩ : ∃ n, S.length = n := ⟨_, rfl⟩
    have hNb : NS ≤ 1048577 := by
      rw [← eNS, hPok.len]
      have h1 := len_le_off (spl 32 l)
      have h2 := off_spl 32 l
      have h3 := HL.out.2
      omega
    have hRz : Rg.Rz V sv S := by
      rcases Nat.eq_zero_or_pos S.length with h0 | h0
      · obtain ⟨a, c, e⟩ := Rg.own_slice rS
        exact .inl ⟨List.eq_nil_of_length_eq_zero h0, a, c, by rw [e, h0]⟩
      · exact .inr (Rg.rs_of_own rS h0)
    have LO := Rg.load_any V sv S hRz hPok.sgb (by rw [eNS]; omega) lim HL.out.1.1 HL.out.1.2
    obtain ⟨sa, sc, esv⟩ := Rg.own_slice rS
    obtain ⟨ba, bc, ebv⟩ := Rg.own_slice rB
    rw [eNS] at esv ebv
    subst esv
    subst ebv
    have c7 := Rg.cell1 r7
    have HV := hide (And.intro hI (And.intro hPok (And.intro eNS (And.intro r7 (And.intro r8 (And.intro rB hK))))))
    clear hI hPok eNS r7 r8 rS rB hRz SQ R0
    gi_wp2_with fail
    refine ⟨trivial, (callsIn_wide.2 LO).mono ?_⟩
    rintro e V3 ⟨p, i, c, rfl, hL, kL⟩
    obtain ⟨hI, hPok, eNS, r7, r8, rB, hK⟩ := HV.out
    have bk : ∀ {q : Nat} {cc : Array Value} {t : TypeId}, V.heap[q]? = some (.cells cc t (0, 0)) → V3.heap[q]? = some (.cells cc t (0, 0)) := fun hh => (kL.block _ (Rg.blk_lt hh) (fun e => e)).trans hh
    have q4 := bk hI.b4
    have q5 := bk hI.b5
    have q6 := bk hI.b6
    have q7 := bk r7
    have q8 := bk r8
    have hDlt : D < V.heap.size := by rcases Nat.lt_or_ge D V.heap.size with h1 | h1; exact h1; rw [Array.getElem?_eq_none h1] at hK; cases hK
    have hK3 : V3.heap[D]? = some (.deferred (some [])) := (kL.block D hDlt (fun e => e)).trans hK
    have hwV : w.heap.size + 1 + 1 < V.heap.size := Rg.blk_lt hI.b6
    have rB3 : V3.ownsRow w1.heap.size 3 1 (.slice ba NS bc) NS (begs (spl 32 l)) := by
      rw [eNS] at rB
      exact Rg.own_keep rB (fun q e => kL.block q (Rg.own_lt rB e) (fun x => x))
    -- what is left behind, whatever the three results are
    have FIN : Hid (∀ (x y z : Value), ∃ W, W = ((V3.setCell ⟨w.heap.size, 0, none⟩ x).setCell ⟨w.heap.size + 1, 0, none⟩ y).setCell ⟨w.heap.size + 1 + 1, 0, none⟩ z ∧ W.heap[D]? = some (.deferred (some [])) ∧ (W.putObj D (.deferred none)).cell? ⟨w.heap.size, 0, none⟩ = some x ∧ (W.putObj D (.deferred none)).cell? ⟨w.heap.size + 1, 0, none⟩ = some y ∧ (W.putObj D (.deferred none)).cell? ⟨w.heap.size + 1 + 1, 0, none⟩ = some z ∧ Kp Nu w (W.putObj D (.deferred none)) ∧ Rg.Lrs V (W.putObj D (.deferred none)) lim S p i c) := hide (fun x y z => by
      have MM := three_set (w := w) q4 q5 q6 x y z
      simp only at MM
      obtain ⟨m4, m5, m6, kM⟩ := MM
      refine ⟨_, rfl, ?_, ?_, ?_, ?_, ?_, ?_⟩
      · refine (kM.block D (by have := kL.size; omega) (fun e => ?_)).trans hK3
        rcases e with rfl | rfl | rfl
        · rw [q4] at hK3; cases hK3
        · rw [q5] at hK3; cases hK3
        · rw [q6] at hK3; cases hK3
      · exact Rg.cell1 ((World.putObj_heap_other (fun e => by rw [← e, q4] at hK3; cases hK3)).trans m4)
      · exact Rg.cell1 ((World.putObj_heap_other (fun e => by rw [← e, q5] at hK3; cases hK3)).trans m5)
      · exact Rg.cell1 ((World.putObj_heap_other (fun e => by rw [← e, q6] at hK3; cases hK3)).trans m6)
      · have k9 : Kp (fun q => q = w.heap.size ∨ q = w.heap.size + 1 ∨ q = w.heap.size + 1 + 1 ∨ q = D) V3 ((((V3.setCell ⟨w.heap.size, 0, none⟩ x).setCell ⟨w.heap.size + 1, 0, none⟩ y).setCell ⟨w.heap.size + 1 + 1, 0, none⟩ z).putObj D (.deferred none)) := (kM.mono (fun _ _ e => e.elim .inl (fun e => e.elim (fun e => .inr (.inl e)) (fun e => .inr (.inr (.inl e)))))).trans (kp_put (T := fun q => q = D) _ rfl) (fun _ _ e => .inr (.inr (.inr e)))
        have kw0 : Kp Nu w V := Rg.Kp.of_below hI.be
        exact (kw0.andNu kL).trans k9 (fun q hq e => by
          have hDw := Nat.le_trans hs0 hD
          rcases e with e | e | e | e <;> omega)
      · have k9 : Kp (fun q => q = w.heap.size ∨ q = w.heap.size + 1 ∨ q = w.heap.size + 1 + 1 ∨ q = D) V3 ((((V3.setCell ⟨w.heap.size, 0, none⟩ x).setCell ⟨w.heap.size + 1, 0, none⟩ y).setCell ⟨w.heap.size + 1 + 1, 0, none⟩ z).putObj D (.deferred none)) := (kM.mono (fun _ _ e => e.elim .inl (fun e => e.elim (fun e => .inr (.inl e)) (fun e => .inr (.inr (.inl e)))))).trans (kp_put (T := fun q => q = D) _ rfl) (fun _ _ e => .inr (.inr (.inr e)))
        exact lrs_keep hL k9 (fun q e => by rcases e with e | e | e | e <;> omega))
    have z4 := Rg.cell1 q4; have z5 := Rg.cell1 q5; have z6 := Rg.cell1 q6; have z7 := Rg.cell1 q7; have z8 := Rg.cell1 q8
    have f4 := Rg.free3 q4 0; have f5 := Rg.free3 q5 0; have f6 := Rg.free3 q6 0
    have hwV' := hide (And.intro hI.be.size (And.intro hPok eNS))
    have HB3 := hide (And.intro rB3 q8)
    have hlc := lrs_cases hL
    have hsize : (⟨l.toArray⟩ : ByteArray).size = l.length := by simp [ByteArray.size]
    clear bk q4 q5 q6 q7 hDlt hK3 hwV rB3 hI hPok eNS r7 r8 rB hL kL LO c7 q8 hK hkD
    rcases hlc with ⟨hc, rfl, hi⟩ | ⟨rfl, bb, rfl⟩
    · have hc0 : (c == 0) = false := by simpa using hc
      rcases hi with ⟨k, hk, rfl⟩ | rfl
      · rw [hwV'.out.2.2] at hk
        have hne : ((k : Int) == (NS : Int)) = false := by simp; omega
        obtain ⟨W, eW, w1', w2', w3', w4', w5', w6'⟩ := FIN.out (.pointer none) (.int .i64 (off ((spl 32 l).take k) : Int)) (.int .i64 c)
        have HF := hide (And.intro eW (And.intro w1' (And.intro w2' (And.intro w3' (And.intro w4' (And.intro w5' (And.intro w6' (And.intro hc hk))))))))
        obtain ⟨bg, eba, cB, hbg⟩ := own_at HB3.out.1 (begs_at (pre := spl 32 l) (i := k) (by rw [← hwV'.out.2.1.len, hwV'.out.2.2]; exact hk))
        have hb9 : w.heap.size + 1 + 1 + 1 < w1.heap.size := by have := Rg.blk_lt Y1.out.2.2.1; omega
        have d8 : (V3.setCell ⟨w.heap.size, 0, none⟩ (.pointer none)).cell? ⟨w.heap.size + 1 + 1 + 1 + 1, 0, none⟩ = some (.slice ba NS bc) := Rg.cell1 ((set_other _ _ _ _ (by omega)).trans HB3.out.2)
        have dB : (V3.setCell ⟨w.heap.size, 0, none⟩ (.pointer none)).cell? ⟨bg, k, none⟩ = some (.int .i64 (off ((spl 32 l).take k) : Int)) := (World.cell?_of_block (set_other _ _ _ bg (by omega))).trans cB
        have d5 : (V3.setCell ⟨w.heap.size, 0, none⟩ (.pointer none)).cell? ⟨w.heap.size + 1, 0, none⟩ = some (.int .i64 0) := by rw [World.cell?_of_block (set_other V3 w.heap.size (.pointer none) (w.heap.size + 1) (by omega))]; exact z5
        have g5 : (V3.setCell ⟨w.heap.size, 0, none⟩ (.pointer none)).frozen? ⟨w.heap.size + 1, 0, none⟩ = false := by simpa using f5
        have k0 : (0 : Int) ≤ (k : Int) := by omega
        have k1 : (k : Int) < (NS : Int) := by omega
        have k4 : (k : Int).toNat = k := by omega
        subst eba
        clear eW w1' w2' w3' w4' w5' w6' FIN hbg hb9 hk hNb
        gi_wp2_with fail
        gi_region_o
        all_goals gi_wp2
        rw [← HF.out.1]
        have kd : Kp Nu (W.putObj D (.deferred none)) (W.drew.putObj D (.deferred none)) := ⟨rfl, rfl, rfl, Nat.le_refl _, fun _ _ _ => rfl⟩
        refine ⟨by simp, .inl ⟨_, _, rfl, run_takeDeferred (show W.drew.heap[D]? = _ from HF.out.2.1), ?_⟩⟩
        refine ⟨.tuple #[.pointer none, .int .i64 (off ((spl 32 l).take k) : Int), .int .i64 c], ?_, _, _, _, rfl, .inr (.inr ⟨HL.out.1, S, _, V, hwV'.out.2.1, hwV'.out.1, lrs_keep HF.out.2.2.2.2.2.2.1 kd (fun _ e => e.elim), .inr (.inr ⟨HF.out.2.2.2.2.2.2.2.1, k, by rw [hwV'.out.2.2]; exact HF.out.2.2.2.2.2.2.2.2, rfl, rfl⟩)⟩), HF.out.2.2.2.2.2.1.andNu kd⟩
        have y4 : (W.drew.putObj D (.deferred none)).cell? ⟨w.heap.size, 0, none⟩ = some (.pointer none) := HF.out.2.2.1
        have y5 : (W.drew.putObj D (.deferred none)).cell? ⟨w.heap.size + 1, 0, none⟩ = some (.int .i64 (off ((spl 32 l).take k) : Int)) := HF.out.2.2.2.1
        have y6 : (W.drew.putObj D (.deferred none)).cell? ⟨w.heap.size + 1 + 1, 0, none⟩ = some (.int .i64 c) := HF.out.2.2.2.2.1
        simp [results, Tryd.results32, go_sem, y4, y5, y6]
      · rw [hwV'.out.2.2]
        have hne : ((NS : Int) == (NS : Int)) = true := by simp
        obtain ⟨W, eW, w1', w2', w3', w4', w5', w6'⟩ := FIN.out (.pointer none) (.int .i64 (l.length : Int)) (.int .i64 c)
        rw [hwV'.out.2.2] at w6'
        have HF := hide (And.intro eW (And.intro w1' (And.intro w2' (And.intro w3' (And.intro w4' (And.intro w5' (And.intro w6' hc)))))))
        clear eW w1' w2' w3' w4' w5' w6' FIN
        gi_wp2
        rw [← HF.out.1]
        refine ⟨by simp, .inl ⟨_, _, rfl, run_takeDeferred HF.out.2.1, ?_⟩⟩
        refine ⟨.tuple #[.pointer none, .int .i64 (l.length : Int), .int .i64 c], ?_, _, _, _, rfl, .inr (.inr ⟨HL.out.1, S, _, V, hwV'.out.2.1, hwV'.out.1, HF.out.2.2.2.2.2.2.1, .inr (.inl ⟨HF.out.2.2.2.2.2.2.2, by rw [hwV'.out.2.2], rfl⟩)⟩), HF.out.2.2.2.2.2.1⟩
        have y4 := HF.out.2.2.1
        have y5 := HF.out.2.2.2.1
        have y6 := HF.out.2.2.2.2.1
        simp [results, Tryd.results32, go_sem, y4, y5, y6]
    · have hc0 : ((0 : Int) == 0) = true := rfl
      obtain ⟨W, eW, w1', w2', w3', w4', w5', w6'⟩ := FIN.out (.pointer (some ⟨bb, 0, none⟩)) (.int .i64 0) (.int .i64 0)
      have HF := hide (And.intro eW (And.intro w1' (And.intro w2' (And.intro w3' (And.intro w4' (And.intro w5' w6'))))))
      clear eW w1' w2' w3' w4' w5' w6' FIN
      gi_wp2
      rw [← HF.out.1]
      refine ⟨by simp, .inl ⟨_, _, rfl, run_takeDeferred HF.out.2.1, ?_⟩⟩
      refine ⟨.tuple #[.pointer (some ⟨bb, 0, none⟩), .int .i64 0, .int .i64 0], ?_, _, _, _, rfl, .inr (.inr ⟨HL.out.1, S, i, V, hwV'.out.2.1, hwV'.out.1, HF.out.2.2.2.2.2.2, .inl ⟨rfl, rfl⟩⟩), HF.out.2.2.2.2.2.1⟩
      have y4 := HF.out.2.2.1
      have y5 := HF.out.2.2.2.1
      have y6 := HF.out.2.2.2.2.1
      simp [results, Tryd.results32, go_sem, y4, y5, y6]
  case stop1 =>
    rintro D c pre V hD hpre hX hK
    obtain rfl := hX.rt
    obtain ⟨p, x, rfl, h1, h2, h5⟩ := hX.no
    have po : ∀ {q : Nat} {cc : Array Value} {t : TypeId}, V.heap[q]? = some (.cells cc t (0, 0)) → (V.putObj D (.deferred none)).heap[q]? = some (.cells cc t (0, 0)) := fun h => (World.putObj_heap_other (fun e => by rw [← e, h] at hK; cases hK)).trans h
    have y4 := Rg.cell1 (po hX.b4)
    have y5 := Rg.cell1 (po h5)
    have y6 := Rg.cell1 (po hX.b6)
    have HF : Hid (Kp Nu w (V.putObj D (.deferred none))) := hide (Rg.Kp.of_below (hX.be.trans (belowK_b (w := w) (Nat.le_refl _) V D _ _ (Nat.le_trans hs0 hD) hK rfl rfl)))
    have HG := hide (And.intro hpre (And.intro h1 h2))
    clear hX h1 h2 h5 hpre SQ R0 po
    gi_wp2
    refine ⟨by simp, .inl ⟨_, _, rfl, run_takeDeferred hK, ?_⟩⟩
    refine ⟨.tuple #[.pointer none, .int .i64 (off p : Int), .int .i64 64], ?_, _, _, _, rfl, .inr (.inl ⟨HL.out.1, p, x, HG.out.1, HG.out.2.1, HG.out.2.2, rfl, rfl, rfl⟩), HF.out⟩
    simp [results, Tryd.results32, go_sem, y4, y5, y6]
set_option maxHeartbeats 1000000 in
theorem read_bad (l : List UInt8) (lim : Int) (w : World) (hlim : ¬ (1 ≤ lim ∧ lim ≤ 8192)) :
    Calls Tryd.prog 32 #[str l, .int .i64 lim] w fun e w' => ∃ p at_ c, e = .returned (.tuple #[p, .int .i64 at_, .int .i64 c]) ∧ RdR w w' lim l p at_ c ∧ Kp Nu w w' := by
  have LI := fun W => Rg.limit_bad lim W hlim
  have k1 := Rg.Kp.alloc w (.cells #[.pointer none] 27) Nu
  have k2 := Rg.Kp.alloc (w.alloc (.cells #[.pointer none] 27)) (.cells #[.int .i64 0] 3) Nu
  have k3 := Rg.Kp.alloc ((w.alloc (.cells #[.pointer none] 27)).alloc (.cells #[.int .i64 0] 3)) (.cells #[.int .i64 0] 42) Nu
  obtain ⟨V, eV⟩ : ∃ V, ((w.alloc (.cells #[.pointer none] 27)).alloc (.cells #[.int .i64 0] 3)).alloc (.cells #[.int .i64 0] 42) = V := ⟨_, rfl⟩
  have x1 : V.heap[w.heap.size]? = some (.cells #[.pointer none] 27 (0, 0)) := by
    rw [← eV]
    exact (Below.heap_alloc _ _ _ (by first | (simp; done) | (simp; omega))).trans ((Below.heap_alloc _ _ _ (by first | (simp; done) | (simp; omega))).trans (heap_alloc_new _ _))
  have x2 : V.heap[w.heap.size + 1]? = some (.cells #[.int .i64 0] 3 (0, 0)) := by
    rw [← eV]
    exact (Below.heap_alloc _ _ _ (by first | (simp; done) | (simp; omega))).trans (by have := heap_alloc_new (w.alloc (.cells #[.pointer none] 27)) (.cells #[.int .i64 0] 3); simpa using this)
  have x3 : V.heap[w.heap.size + 1 + 1]? = some (.cells #[.int .i64 0] 42 (0, 0)) := by
    rw [← eV]
    have := heap_alloc_new ((w.alloc (.cells #[.pointer none] 27)).alloc (.cells #[.int .i64 0] 3)) (.cells #[.int .i64 0] 42); simpa using this
  have kV : Kp Nu w V := by rw [← eV]; exact (k1.andNu k2).andNu k3
  have MM := three_set (w := w) x1 x2 x3 (.pointer none) (.int .i64 0) (.int .i64 63)
  simp only at MM
  obtain ⟨m4, m5, m6, kM⟩ := MM
  have y4 := Rg.cell1 m4
  have y5 := Rg.cell1 m5
  have y6 := Rg.cell1 m6
  have z4 := Rg.cell1 x1; have z5 := Rg.cell1 x2; have z6 := Rg.cell1 x3
  have f4 := Rg.free3 x1 0; have f5 := Rg.free3 x2 0; have f6 := Rg.free3 x3 0
  have HF := hide (And.intro hlim (kV.trans kM (fun q hq e => by rcases e with e | e | e <;> omega)))
  clear m4 m5 m6 kM x1 x2 x3 k1 k2 k3 kV hlim
  unfold str
  refine (callsIn_wide (n := 4)).1 ?_
  refine callsIn_of_wp_marks Tryd.func32 rfl trivial ?_ rfl
  simp only [Tryd.ntmps32, List.size_toArray, List.length_cons, List.length_nil, Nat.reduceAdd, Nat.reduceSub, Array.replicate_succ, Array.replicate_zero, List.push_toArray, List.append_toArray, List.nil_append, List.cons_append]
  gi_wp2_with fail
  refine ⟨trivial, (callsIn_wide.2 (LI _)).mono ?_⟩
  rintro e w' ⟨rfl, hw'⟩; obtain rfl := hw'.symm
  gi_wp2
  refine ⟨.tuple #[.pointer none, .int .i64 0, .int .i64 63], ?_, _, _, _, rfl, .inl ⟨HF.out.1, rfl, rfl, rfl⟩, HF.out.2⟩
  simp [results, Tryd.results32, go_sem, y4, y5, y6]
theorem read_any (l : List UInt8) (hl : l.length ≤ 1048576) (lim : Int) (w : World) :
    Calls Tryd.prog 32 #[str l, .int .i64 lim] w fun e w' => ∃ p at_ c, e = .returned (.tuple #[p, .int .i64 at_, .int .i64 c]) ∧ RdR w w' lim l p at_ c ∧ Kp Nu w w' := by
  by_cases h : 1 ≤ lim ∧ lim ≤ 8192
  · exact read32 l hl lim w h
  · exact read_bad l lim w h
end Go.Proofs.YtffcnonhhfhlhaaDoor.Ws
