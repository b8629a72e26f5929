import Derived.Test.YtgaehpdlljlliaaCwC
namespace Go.Proofs.Ytgaehpdlljlliaa.Cd
open Go.RowKit
set_option linter.unusedVariables false

set_option maxHeartbeats 4000000 in
theorem bytes_any {w : World} (t : Stp) (f : Fit w t) (hn : norm t) : Calls Try.prog 33 #[.agg #[.int .i64 t.kind, .int .u64 t.N, .int .i64 t.I, .bool t.F, t.bv]] w fun e w' => ∃ u, e = .returned u ∧ News w.heap.size w w' u (tb t) := by
  have n0 := f.n0
  have n1 := f.n1
  have i0 := f.i0
  have i1 := f.i1
  have hle := f.len
  have KA := fun o => Kp.alloc w o Nu
  have hrd := fun o => f.rd.keeps (Kp.alloc w o Nu) (fun _ _ h => h)
  obtain ⟨a1, a2, a3, a4, a5, a6, a7⟩ := hn
  obtain ⟨ad, cap, hbv⟩ := f.rd.slice
  obtain ⟨kind, N, I, F, bv, bs⟩ := t
  simp only at *
  subst hbv
  clear f
  by_cases h1 : kind = 1
  · subst h1
    have e : tb { kind := 1, N := N, I := I, F := F, bv := .slice ad bs.length cap, bs := bs } = be 1 N.toNat := by
      simp [tb]
      rw [show N % 256 = N by have := a1 rfl; omega]
    have C := fun w => digits_any w N 1 n0 n1 (by omega) (by omega)
    rw [e]
    generalize be 1 N.toNat = ys at *
    clear e hle i0 i1 hrd
    go_enter Try.func33, Try.ntmps33
    go_wp2_with fail
    refine (C _).mono ?_; rintro e w1 ⟨u, rfl, hu⟩
    go_wp2
    go_ret
    exact ⟨_, rfl, hu.boxed (KA _)⟩
  by_cases h2 : kind = 2
  · subst h2
    have e : tb { kind := 2, N := N, I := I, F := F, bv := .slice ad bs.length cap, bs := bs } = be 2 N.toNat := by
      simp [tb]
      rw [show N % 65536 = N by have := a2 rfl; omega]
    have C := fun w => digits_any w N 2 n0 n1 (by omega) (by omega)
    rw [e]
    generalize be 2 N.toNat = ys at *
    clear e hle i0 i1 hrd
    go_enter Try.func33, Try.ntmps33
    go_wp2_with fail
    refine (C _).mono ?_; rintro e w1 ⟨u, rfl, hu⟩
    go_wp2
    go_ret
    exact ⟨_, rfl, hu.boxed (KA _)⟩
  by_cases h3 : kind = 3
  · subst h3
    have e : tb { kind := 3, N := N, I := I, F := F, bv := .slice ad bs.length cap, bs := bs } = be 4 N.toNat := by
      simp [tb]
      rw [show N % 4294967296 = N by have := a3 rfl; omega]
    have C := fun w => digits_any w N 4 n0 n1 (by omega) (by omega)
    rw [e]
    generalize be 4 N.toNat = ys at *
    clear e hle i0 i1 hrd
    go_enter Try.func33, Try.ntmps33
    go_wp2_with fail
    refine (C _).mono ?_; rintro e w1 ⟨u, rfl, hu⟩
    go_wp2
    go_ret
    exact ⟨_, rfl, hu.boxed (KA _)⟩
  by_cases h4 : kind = 4
  · subst h4
    have e : tb { kind := 4, N := N, I := I, F := F, bv := .slice ad bs.length cap, bs := bs } = be 8 N.toNat := by
      simp [tb]
    have C := fun w => digits_any w N 8 n0 n1 (by omega) (by omega)
    rw [e]
    generalize be 8 N.toNat = ys at *
    clear e hle i0 i1 hrd
    go_enter Try.func33, Try.ntmps33
    go_wp2_with fail
    refine (C _).mono ?_; rintro e w1 ⟨u, rfl, hu⟩
    go_wp2
    go_ret
    exact ⟨_, rfl, hu.boxed (KA _)⟩
  by_cases h5 : kind = 5
  · subst h5
    have e : tb { kind := 5, N := N, I := I, F := F, bv := .slice ad bs.length cap, bs := bs } = va N.toNat := by simp [tb]
    have C := fun w => groups_any w N.toNat (by omega)
    rw [show ((N.toNat : Nat) : Int) = N by omega] at C
    rw [e]
    generalize va N.toNat = ys at *
    clear e hle i0 i1 hrd
    go_enter Try.func33, Try.ntmps33
    go_wp2_with fail
    refine (C _).mono ?_; rintro e w1 ⟨u, rfl, hu⟩
    go_wp2
    go_ret
    exact ⟨_, rfl, hu.boxed (KA _)⟩
  by_cases h6 : kind = 6
  · subst h6
    obtain ⟨z0, z1⟩ := zz_range i0 i1
    have e : tb { kind := 6, N := N, I := I, F := F, bv := .slice ad bs.length cap, bs := bs } = va (zz I).toNat := by simp [tb]
    have FO := fun w => fold_any I i0 i1 w
    have C := fun w => groups_any w (zz I).toNat (by omega)
    rw [show (((zz I).toNat : Nat) : Int) = zz I by omega] at C
    rw [e]
    generalize va (zz I).toNat = ys at *
    generalize zz I = z at *
    clear e hle i0 i1 hrd
    go_enter Try.func33, Try.ntmps33
    go_wp2_with fail
    refine (FO _).mono ?_; rintro e w1 ⟨rfl, rfl⟩
    go_wp2_with fail
    refine (C _).mono ?_; rintro e w1 ⟨u, rfl, hu⟩
    go_wp2
    go_ret
    exact ⟨_, rfl, hu.boxed (KA _)⟩
  by_cases h7 : kind = 7
  · subst h7
    cases F
    · have e : tb { kind := 7, N := N, I := I, F := false, bv := .slice ad bs.length cap, bs := bs } = [0] := by simp [tb]
      rw [e]
      clear e hle i0 i1 hrd
      go_enter Try.func33, Try.ntmps33
      go_wp2
      go_ret
      refine ⟨_, rfl, .inr ⟨_, 1, rfl, fun j u hj => ?_⟩, .inr ⟨w.heap.size + 1, by omega, by simp [at?]⟩, ((Kp.refl Nu w).andAlloc _).andAlloc _⟩
      have := cell_one_new (w.alloc (.cells #[.int .i64 7, .int .u64 N, .int .i64 I, .bool false, .slice ad bs.length cap] 40)) (.int .u8 0) 5 j u (by simpa [cs] using hj)
      simpa [a4, a5, a7] using this
    · have e : tb { kind := 7, N := N, I := I, F := true, bv := .slice ad bs.length cap, bs := bs } = [1] := by simp [tb]
      rw [e]
      clear e hle i0 i1 hrd
      go_enter Try.func33, Try.ntmps33
      go_wp2
      go_ret
      refine ⟨_, rfl, .inr ⟨_, 1, rfl, fun j u hj => ?_⟩, .inr ⟨w.heap.size + 1, by omega, by simp [at?]⟩, ((Kp.refl Nu w).andAlloc _).andAlloc _⟩
      have := cell_one_new (w.alloc (.cells #[.int .i64 7, .int .u64 N, .int .i64 I, .bool true, .slice ad bs.length cap] 40)) (.int .u8 1) 5 j u (by simpa [cs] using hj)
      simpa [a4, a5, a7] using this
  by_cases h8 : kind = 8
  · subst h8
    have e : tb { kind := 8, N := N, I := I, F := F, bv := .slice ad bs.length cap, bs := bs } = [] ++ bs := by simp [tb]
    have J := fun o => join_any (rd_nil (w.alloc o)) (hrd o) (by simp; omega)
    rw [e]
    clear e hle i0 i1 hrd
    go_enter Try.func33, Try.ntmps33
    go_wp2_with fail
    refine (J _).mono ?_; rintro e w1 ⟨u, rfl, hu⟩
    go_wp2
    go_ret
    exact ⟨_, rfl, hu.boxed (KA _)⟩
  have e : tb { kind := kind, N := N, I := I, F := F, bv := .slice ad bs.length cap, bs := bs } = va bs.length ++ bs := by
    simp only [tb, if_neg h1, if_neg h2, if_neg h3, if_neg h4, if_neg h5, if_neg h6, if_neg h7, if_neg h8]
  have hva := va_le bs.length
  rw [e]
  exact bytes_block kind N I F ad bs.length cap bs (va bs.length) hrd (by omega) (fun w => groups_any w bs.length (by omega)) (by omega) h1 h2 h3 h4 h5 h6 h7 h8

theorem cell4 {w : World} {b : Nat} {x0 x1 x2 x3 : Value} {t : TypeId} (h : w.heap[b]? = some (.cells #[x0, x1, x2, x3] t (0, 0))) :
    w.cell? ⟨b, 0, none⟩ = some x0 ∧ w.cell? ⟨b, 1, none⟩ = some x1 ∧ w.cell? ⟨b, 2, none⟩ = some x2 ∧ w.cell? ⟨b, 3, none⟩ = some x3 := by
  refine ⟨?_, ?_, ?_, ?_⟩ <;> simp [World.cell?, h]

/-- the document's writer at block b -/
structure Wg (w : World) (b : Nat) (there : Bool) (lim err : Int) (v : Value) (xs : List Int) : Prop where
  blk : w.heap[b]? = some (.cells #[.bool there, .int .i64 lim, v, .int .i64 err] 32 (0, 0))
  own : w.ownsRow 0 5 1 v xs.length (cs xs)

section
variable {w : World} {b : Nat} {there : Bool} {lim err : Int} {v : Value} {xs : List Int}
theorem Wg.lt (h : Wg w b there lim err v xs) : b < w.heap.size := block_lt h.blk
theorem Wg.ne (h : Wg w b there lim err v xs) : ∀ g, v.ownBlock = some g → g ≠ b := by
  rintro g hg rfl
  rcases h.own.2 with ⟨rfl, h0⟩ | ⟨g', cap, cur, rfl, hb', hg', _⟩
  · simp [Value.ownBlock] at hg
  · simp [Value.ownBlock] at hg
    subst hg
    rw [h.blk] at hg'
    cases hg'
theorem own_keeps {S : Nat → Prop} {w' : World} {n : Nat} {l : List Value} (h : w.ownsRow 0 5 1 v n l) (k : Kp S w w') (hv : ∀ g, v.ownBlock = some g → ¬ S g) : w'.ownsRow 0 5 1 v n l := by
  refine ⟨h.1, ?_⟩
  rcases h.2 with ⟨rfl, h0⟩ | ⟨g, cap, cur, rfl, hb', hg, h1, h2, h3, h4⟩
  · exact .inl ⟨rfl, h0⟩
  · exact .inr ⟨g, cap, cur, rfl, hb', (k.block g (block_lt hg) (hv g rfl)).trans hg, h1, h2, h3, h4⟩
theorem Wg.keeps {S : Nat → Prop} {w' : World} (h : Wg w b there lim err v xs) (k : Kp S w w') (hb : ¬ S b) (hv : ∀ g, v.ownBlock = some g → ¬ S g) : Wg w' b there lim err v xs :=
  ⟨(k.block b h.lt hb).trans h.blk, own_keeps h.own k hv⟩

theorem newWriting_bad (w : World) (n : Int) (h : n < 0 ∨ n > 16777216) : Calls Try.prog 10 #[.int .i64 n] w fun e w' => e = .returned (.tuple #[.agg #[.bool false, .int .i64 0, .slice none 0 0, .int .i64 0], .int .i64 2]) ∧ Kp Nu w w' := by
  by_cases h1 : n < 0
  · go_enter Try.func10, Try.ntmps10
    go_wp2
    exact bodyPost_ret (v := .tuple #[.agg #[.bool false, .int .i64 0, .slice none 0 0, .int .i64 0], .int .i64 2]) (by simp [results, Try.results10, go_sem]) rfl ⟨rfl, Kp.alloc _ _ _⟩
  · have h2 : n > 16777216 := by omega
    go_enter Try.func10, Try.ntmps10
    go_wp2
    exact bodyPost_ret (v := .tuple #[.agg #[.bool false, .int .i64 0, .slice none 0 0, .int .i64 0], .int .i64 2]) (by simp [results, Try.results10, go_sem]) rfl ⟨rfl, Kp.alloc _ _ _⟩
theorem newWriting_ok (w : World) (n : Int) (h0 : 0 ≤ n) (h1 : n ≤ 16777216) : Calls Try.prog 10 #[.int .i64 n] w fun e w' => e = .returned (.tuple #[.agg #[.bool true, .int .i64 n, .slice none 0 0, .int .i64 0], .int .i64 0]) ∧ Kp Nu w w' := by
  have h2 : ¬ n > 16777216 := by omega
  have h3 : ¬ n < 0 := by omega
  go_enter Try.func10, Try.ntmps10
  go_wp2
  exact bodyPost_ret (v := .tuple #[.agg #[.bool true, .int .i64 n, .slice none 0 0, .int .i64 0], .int .i64 0]) (by simp [results, Try.results10, go_sem]) rfl ⟨rfl, Kp.alloc _ _ _⟩

def errG (there : Bool) (err : Int) : Int := if there then err else 1
theorem error_any (h : Wg w b there lim err v xs) : Calls Try.prog 44 #[.pointer (some ⟨b, 0, none⟩)] w fun e w' => e = .returned (.int .i64 (errG there err)) ∧ w' = w := by
  obtain ⟨c0, c1, c2, c3⟩ := cell4 h.blk
  cases there
  · go_enter Try.func44, Try.ntmps44
    go_wp2
    go_ret
    exact ⟨rfl, rfl⟩
  · go_enter Try.func44, Try.ntmps44
    go_wp2
    go_ret
    exact ⟨rfl, rfl⟩
theorem all_err (h : Wg w b there lim err v xs) (he : (errG there err != 0) = true) : Calls Try.prog 45 #[.pointer (some ⟨b, 0, none⟩)] w fun e w' => e = .returned (.tuple #[.slice none 0 0, .int .i64 (errG there err)]) ∧ w' = w := by
  have E := error_any h
  generalize errG there err = q at *
  go_enter Try.func45, Try.ntmps45
  go_wp2_with fail
  refine E.mono ?_; rintro e w' ⟨rfl, rfl⟩
  go_wp2
  go_ret2
  exact ⟨rfl, rfl⟩
theorem all_ok (h : Wg w b true lim 0 v xs) (hx : xs.length ≤ 16777216) : Calls Try.prog 45 #[.pointer (some ⟨b, 0, none⟩)] w fun e w' => ∃ u, e = .returned (.tuple #[u, .int .i64 0]) ∧ News w.heap.size w w' u xs := by
  have E := error_any h
  have J := join_any (rd_nil w) (rd_own h.own rfl) (by simp; omega)
  rw [List.nil_append] at J
  obtain ⟨c0, c1, c2, c3⟩ := cell4 h.blk
  rw [show errG true 0 = 0 from rfl] at E
  clear hx
  go_enter Try.func45, Try.ntmps45
  go_wp2_with fail
  refine E.mono ?_; rintro e w' ⟨rfl, rfl⟩
  go_wp2_with fail
  refine J.mono ?_; rintro e w' ⟨u, rfl, hu⟩
  go_wp2
  go_ret2
  exact ⟨u, rfl, hu⟩

/-- what Lay leaves -/
def layG (there : Bool) (lim err : Int) (xs : List Int) (t : Stp) : Int × List Int := if there then put lim err xs (tb t) else (err, xs)

def FinG (w : World) (b : Nat) (there : Bool) (lim : Int) (v : Value) (r : Int × List Int) (w' : World) : Prop := ∃ v', Wg w' b there lim r.1 v' r.2 ∧ Fr b v w w' v'

theorem Wg.store {w1 w2 : World} {v' : Value} {ys : List Int} (h : Wg w b there lim err v xs) (k1 : Kp Nu w w1) (hg : Gr v w1 w2 v') (ho : w2.ownsRow 0 5 1 v' ys.length (cs ys)) : w2.heap[b]? = some (.cells #[.bool there, .int .i64 lim, v, .int .i64 err] 32 (0, 0)) ∧ Wg (w2.setCell ⟨b, 2, none⟩ v') b there lim err v' ys ∧ Fr b v w (w2.setCell ⟨b, 2, none⟩ v') v' := by
  have h1 := h.keeps k1 (fun h => h) (fun _ _ h => h)
  have hb : w2.heap[b]? = some (.cells #[.bool there, .int .i64 lim, v, .int .i64 err] 32 (0, 0)) := (hg.kp.block b h1.lt (fun e => h1.ne b e.symm rfl)).trans h1.blk
  have hne : ∀ g, v'.ownBlock = some g → g ≠ b := by
    rintro g hg' rfl
    rcases ho.2 with ⟨rfl, h0⟩ | ⟨g', cap, cur, rfl, hb', hg2, _⟩
    · simp [Value.ownBlock] at hg'
    · simp [Value.ownBlock] at hg'
      subst hg'
      rw [hb] at hg2
      cases hg2
  refine ⟨hb, ⟨?_, ownsRow_set ho hne⟩, ⟨?_, ?_⟩⟩
  · rw [set3 hb]; rfl
  · exact (k1.mono (fun _ _ h => h.elim)).trans ((hg.kp.mono (fun i _ e => .inr e)).trans (Kp.setCell _ _ _) (fun i _ e => .inl e)) (fun i hi e => e)
  · rcases hg.lie with e | ⟨g, hg', e⟩
    · exact .inl e
    · exact .inr ⟨g, Nat.le_trans k1.size hg', e⟩

set_option maxRecDepth 100000 in
set_option maxHeartbeats 1000000 in
theorem Lay_any (h : Wg w b there lim err v xs) (k : Ok lim xs) (t : Stp) (f : Fit w t) (hn : norm t) :
    Calls Try.prog 14 #[.pointer (some ⟨b, 0, none⟩), .agg #[.int .i64 t.kind, .int .u64 t.N, .int .i64 t.I, .bool t.F, t.bv]] w fun e w' => e = .returned (.tuple #[]) ∧ FinG w b there lim v (layG there lim err xs t) w' := by
  obtain ⟨i0, hi, hz0, hz1, hz2⟩ := info_parts info5
  obtain ⟨c0, c1, c2, c3⟩ := cell4 h.blk
  have hblt := h.lt
  have hbne : ¬ b = w.heap.size := by omega
  have B := fun o => bytes_any t (f.below (Nat.le_refl _) (Kp.alloc w o Nu).toBelow) hn
  obtain ⟨ad, cap, hbv⟩ := f.rd.slice
  have hle := f.len
  have hlo := k.lo
  have hhi := k.hi
  have hkl := k.le
  have htb : (tb t).length ≤ 140737488351300 := by
    have h1 := be_length
    have h2 := va_le
    unfold tb
    repeat' split
    all_goals try simp only [be_length, List.length_append, List.length_cons, List.length_nil]
    all_goals first | omega | (have := va_le t.N.toNat; omega) | (have := va_le (zz t.I).toNat; omega) | (have := va_le t.bs.length; omega)
  have SAME : ∀ w', Kp Nu w w' → FinG w b there lim v (err, xs) w' := fun w' k' => ⟨v, h.keeps k' (fun h => h) (fun _ _ h => h), ⟨k'.mono (fun _ _ h => h.elim), .inl rfl⟩⟩
  have hrow := fun (w2 : World) (k2 : Kp Nu w w2) => own_keeps h.own k2 (fun _ _ h => h)
  have ST := fun (w1 w2 : World) v' ys (k1 : Kp Nu w w1) (hg : Gr v w1 w2 v') ho => h.store (ys := ys) k1 hg ho
  have BK := fun (w2 : World) (k2 : Kp Nu w w2) => h.keeps k2 (fun h => h) (fun _ _ h => h)
  generalize htg : tb t = ys at *
  obtain ⟨kind, N, I, F, bv, bs⟩ := t
  simp only at *
  subst hbv
  clear f hn hle
  cases there
  · rw [show layG false lim err xs ⟨kind, N, I, F, .slice ad bs.length cap, bs⟩ = (err, xs) from rfl]
    clear B htg htb ST hrow BK
    go_enter Try.func14, Try.ntmps14
    go_wp2
    first | go_end0 | refine bodyPost_ret (results_none rfl _ _ _) rfl ?_
    exact ⟨rfl, SAME _ (Kp.alloc _ _ _)⟩
  · rw [show layG true lim err xs ⟨kind, N, I, F, .slice ad bs.length cap, bs⟩ = put lim err xs ys by rw [← htg]; rfl]
    by_cases he : err = 0
    · subst he
      have hysI : (ys.length : Int) ≤ 140737488351300 := by omega
      have SE : ∀ w2, Kp Nu w w2 → FinG w b true lim v (20, xs) (w2.drew.setCell ⟨b, 3, none⟩ (.int .i64 20)) := by
        intro w2 k2
        have h2 := h.keeps k2 (fun h => h) (fun _ _ h => h)
        refine ⟨v, ⟨?_, ownsRow_set (own_keeps h.own k2.drew (fun _ _ h => h)) h.ne⟩, ⟨(k2.mono (fun _ _ h => h.elim)).drew.trans (Kp.setCell w2.drew ⟨b, 3, none⟩ _) (fun i _ e => .inl e), .inl rfl⟩⟩
        have hb2 : w2.drew.heap[b]? = some (.cells #[.bool true, .int .i64 lim, v, .int .i64 0] 32 (0, 0)) := h2.blk
        rw [set3 hb2]
        rfl
      obtain ⟨adv, capv, hvs⟩ := own_slice h.own
      by_cases hf : (ys.length : Int) ≤ lim - (xs.length : Int)
      · rw [show put lim 0 xs ys = (0, xs ++ ys) by simp only [put, if_pos hf, if_true]]
        have hnb : ¬ ((xs.length : Int) + (ys.length : Int) > lim) := by omega
        have HN : Hid (xs.length + ys.length ≤ 16777216) := by show _ ≤ _; omega
        clear htb hysI
        go_enter Try.func14, Try.ntmps14
        go_wp2_with fail
        refine (B _).mono ?_; rintro e w2 ⟨u, rfl, hu⟩
        have hk2 : Kp Nu w w2 := (Kp.alloc w _ Nu).trans hu.2.2 (fun _ _ h => h)
        obtain ⟨d0, d1, d2, d3⟩ := cell4 (BK w2 hk2).blk
        have e2 := free3 (BK w2 hk2).blk 2
        have hrw := hrow w2 hk2
        have hrd := hu.1
        have ST2 := fun w3 v' ys => ST w2.drew w3 v' ys hk2.drew
        clear B SE SAME ST hrow BK hu h htg
        rcases hrd with ⟨rfl, rfl⟩ | ⟨au, capu, rfl, hc⟩
        · have hst := ST2 w2.drew v (xs ++ []) (Gr.refl _ _) (by rw [List.append_nil]; exact hrw)
          subst hvs
          go_wp2
          go_region
          go_wp2_with (at_builtin; refine wpList_append_own_none rfl _ _ 30 rfl 0 5 i0 1 Try.underlying30 hi _ _ _ rfl hrw rfl ?_)
          go_end0
          first | exact ⟨rfl, _, hst.2.1, hst.2.2⟩ | (rw [List.append_nil] at hst; exact ⟨rfl, _, hst.2.1, hst.2.2⟩)
        · have HC := hide hc
          clear hc
          have hrw' := hrw
          have hgb := d2
          rw [hvs] at d2
          rw [hvs] at hrw'
          have ST3 := fun w3 v' ys => ST2 w3 v' ys
          rw [hvs] at ST3
          clear ST2 hgb hrw
          go_wp2
          go_region
          go_wp2_with (at_builtin; refine wpList_append_own_at _ rfl _ _ 30 rfl 0 5 i0 _ 1 1 Try.underlying30 hi hz0 hz1 hz2 rfl (by decide) _ _ _ rfl hrw' au ys.length capu (cs ys) rfl (by rw [cs_length]; omega) HC.out (cs_one ys) (by have := HN.out; unfold maxLen; omega) (by have := HN.out; omega) (Nat.zero_le _) ?_; intro v' w3 hown' hgrow _ hat; have hg : Gr (.slice adv xs.length capv) w2.drew w3 v' := ⟨Kp.of_grown hgrow, hat.imp id (fun e => ⟨_, Nat.le_refl _, e⟩)⟩; have ho : w3.ownsRow 0 5 1 v' (xs ++ ys).length (cs (xs ++ ys)) := (by rw [cs_append, List.length_append]; exact hown'); obtain ⟨hb2, hst1, hst2⟩ := ST3 w3 v' (xs ++ ys) hg ho; obtain ⟨q0, q1, q2, q3⟩ := cell4 hb2; have q4 := free3 hb2 2; clear hown' hgrow hat hg hb2 ST3; obtain ⟨ad', n', cap', rfl⟩ := own_slice' ho; clear ho)
          go_end0
          rw [hvs]
          exact ⟨rfl, _, hst1, hst2⟩
      · rw [show put lim 0 xs ys = (20, xs) by simp only [put, if_neg hf, if_true]]
        have hnb : (xs.length : Int) + (ys.length : Int) > lim := by omega
        clear htb
        go_enter Try.func14, Try.ntmps14
        go_wp2_with fail
        refine (B _).mono ?_; rintro e w2 ⟨u, rfl, hu⟩
        have hk2 : Kp Nu w w2 := (Kp.alloc w _ Nu).trans hu.2.2 (fun _ _ h => h)
        obtain ⟨d0, d1, d2, d3⟩ := cell4 (BK w2 hk2).blk
        have e3 := free3 (BK w2 hk2).blk 3
        have fin := SE w2 hk2
        obtain ⟨adu, capu, hu'⟩ := hu.1.slice
        subst hu'
        rw [hvs] at d2
        clear B SE SAME ST hrow BK hu h htg
        go_wp2
        go_region
        go_wp2
        first | go_end0 | refine bodyPost_ret (results_none rfl _ _ _) rfl ?_
        exact ⟨rfl, fin⟩
    · have he' : (err != 0) = true := by simpa using he
      rw [show put lim err xs ys = (err, xs) by simp only [put, if_neg he]]
      clear B htg htb ST hrow BK
      go_enter Try.func14, Try.ntmps14
      go_wp2
      first | go_end0 | refine bodyPost_ret (results_none rfl _ _ _) rfl ?_
      exact ⟨rfl, SAME _ (Kp.alloc _ _ _)⟩
end
end Go.Proofs.Ytgaehpdlljlliaa.Cd
