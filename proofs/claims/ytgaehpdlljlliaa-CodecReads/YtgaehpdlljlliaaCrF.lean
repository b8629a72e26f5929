import Derived.Test.YtgaehpdlljlliaaCrE
namespace Go.Proofs.Ytgaehpdlljlliaa.Cd
open Go.RowKit
set_option linter.unusedVariables false

/-- what take gives: the number, the signed one, the flag, the bytes; the error and the rest -/
structure Tk where
  N : Int
  I : Int
  F : Bool
  bs : List Int
  err : Int
  xs : List Int

def tkN (r : Int × Int × List Int) : Tk := ⟨r.1, 0, false, [], r.2.1, r.2.2⟩
def tkB (r : List Int × Int × List Int) : Tk := ⟨0, 0, false, r.1, r.2.1, r.2.2⟩
def tk (kind n err : Int) (xs : List Int) : Tk :=
  if kind = 1 then tkN (rdN 1 err xs) else if kind = 2 then tkN (rdN 2 err xs) else if kind = 3 then tkN (rdN 4 err xs) else if kind = 4 then tkN (rdN 8 err xs) else
  if kind = 5 then tkN (rdV err xs) else if kind = 6 then ⟨0, uz (rdV err xs).1, false, [], (rdV err xs).2.1, (rdV err xs).2.2⟩ else
  if kind = 7 then ⟨0, 0, (rdF err xs).1, [], (rdF err xs).2.1, (rdF err xs).2.2⟩ else if kind = 8 then tkB (rdR n err xs) else
  if kind = 9 then tkB (rdB n err xs) else ⟨0, 0, false, [], err, xs⟩

def Took (b g : Nat) (kind n : Int) (w : World) (r : Tk) : Prop :=
  Calls Try.prog 22 #[.pointer (some ⟨b, 0, none⟩), .int .i64 kind, .int .i64 n] w fun e w' => ∃ u, e = .returned (.agg #[.int .i64 kind, .int .u64 r.N, .int .i64 r.I, .bool r.F, u]) ∧ Rd w' u r.bs ∧ fresh w.heap.size u ∧ (∃ v', Rr w' b g r.err v' r.xs) ∧ Kp (iS b) w w'

theorem Kp.andSetS {S : Nat → Prop} {w w1 : World} (h : Kp S w w1) (a : Addr) (u : Value) (ha : w.heap.size ≤ a.block) : Kp S w (w1.setCell a u) :=
  h.trans (Kp.setCell w1 a u) (fun i hi e => by have : i = a.block := e; omega)
theorem Rr.andSet {w : World} {b g : Nat} {err : Int} {xs : List Int} (h : ∃ v, Rr w b g err v xs) (a : Addr) (u : Value) (h1 : a.block ≠ b) (h2 : a.block ≠ g) : ∃ v, Rr (w.setCell a u) b g err v xs := by
  obtain ⟨v, h⟩ := h
  exact ⟨v, h.keeps (Kp.setCell w a u) (fun e => h1 e.symm) (fun e => h2 e.symm)⟩
theorem Rd.andSet {w : World} {v : Value} {ys : List Int} (h : Rd w v ys) (a : Addr) (u : Value) (h1 : at? v ≠ some a.block) : Rd (w.setCell a u) v ys :=
  h.keeps (Kp.setCell w a u) (fun g hg e => h1 (by have : g = a.block := e; rw [← this]; exact hg))

theorem rdN_range {n : Nat} {err : Int} {xs : List Int} (hB : Byt xs) : 0 ≤ (rdN n err xs).1 ∧ (rdN n err xs).1 < 256 ^ n := by
  have hp : (0 : Int) < 256 ^ n := by
    have h3 : (256 : Int) ^ n = ((256 ^ n : Nat) : Int) := by simp
    have := Nat.pow_pos (n := n) (show 0 < 256 by omega)
    omega
  unfold rdN
  split
  · split
    · exact ⟨Int.le_refl _, hp⟩
    · rename_i h
      have := numF_lt (hB.take n)
      rw [List.length_take, Nat.min_eq_left (by omega)] at this
      exact this
  · exact ⟨Int.le_refl _, hp⟩

/-- the two boxes behind the call -/
theorem boxes {w w1 : World} {S : Nat → Prop} {kind : Int} (hS : ∀ k, S k → k < w.heap.size) (hk : Kp S ((w.alloc (.cells #[.int .i64 0, .int .u64 0, .int .i64 0, .bool false, .slice none 0 0] 40)).alloc (.cells #[.int .i64 kind, .int .u64 0, .int .i64 0, .bool false, .slice none 0 0] 40)) w1) :
    w1.heap[w.heap.size + 1]? = some (.cells #[.int .i64 kind, .int .u64 0, .int .i64 0, .bool false, .slice none 0 0] 40 (0, 0)) ∧
    w1.heap[w.heap.size]? = some (.cells #[.int .i64 0, .int .u64 0, .int .i64 0, .bool false, .slice none 0 0] 40 (0, 0)) ∧ Kp S w w1 := by
  refine ⟨?_, ?_, ?_⟩
  · have h1 := hk.block (w.heap.size + 1) (by simp) (fun h => by have := hS _ h; omega)
    rw [h1]
    have := heap_alloc_new (w.alloc (.cells #[.int .i64 0, .int .u64 0, .int .i64 0, .bool false, .slice none 0 0] 40)) (.cells #[.int .i64 kind, .int .u64 0, .int .i64 0, .bool false, .slice none 0 0] 40)
    simpa using this
  · have h1 := hk.block w.heap.size (by simp; omega) (fun h => by have := hS _ h; omega)
    rw [h1, Below.heap_alloc _ _ _ (by simp)]
    exact heap_alloc_new w _
  · exact (Kp.alloc w _ S).trans ((Kp.alloc _ _ S).trans hk (fun _ _ h => h)) (fun _ _ h => h)

set_option maxHeartbeats 4000000 in
theorem take_any {w : World} {b g : Nat} {err : Int} {v : Value} {xs : List Int} (h : Rr w b g err v xs) (hB : Byt xs) (kind n : Int) (hn : n ≤ 9223372036854775807) : Took b g kind n w (tk kind n err xs) := by
  have hblt := h.lt
  have hglt := h.glt
  have R := fun (w1 : World) (k : Kp Nu w w1) => h.keeps k (fun h => h) (fun h => h)
  have K2 : ∀ (o1 o2 : Obj), Kp Nu w ((w.alloc o1).alloc o2) := fun o1 o2 => ((Kp.refl Nu w).andAlloc o1).andAlloc o2
  have BX := fun (w1 : World) (kind : Int) => boxes (w := w) (w1 := w1) (S := iS b) (kind := kind) (fun k e => by have : k = b := e; omega)
  show Calls _ _ _ _ _
  by_cases h1 : kind = 1
  · subst h1
    have C := fun w1 k => ru8_any (R w1 k) hB
    have e : tk 1 n err xs = ⟨(rdN 1 err xs).1, 0, false, [], (rdN 1 err xs).2.1, (rdN 1 err xs).2.2⟩ := by simp [tk, tkN]
    rw [e]
    clear e
    obtain ⟨z0, z1⟩ : 0 ≤ (rdN 1 err xs).1 ∧ (rdN 1 err xs).1 < 256 := by simpa using rdN_range (n := 1) (err := err) hB
    generalize (rdN 1 err xs).1 = z at *
    generalize (rdN 1 err xs).2.1 = q at *
    generalize (rdN 1 err xs).2.2 = rs at *
    clear hB h R
    go_enter Try.func22, Try.ntmps22
    go_wp2_with fail
    refine Calls.mono (C _ (K2 _ _)) ?_; rintro e w1 ⟨rfl, hr, hk⟩
    obtain ⟨hbox, hres, hkw⟩ := BX _ _ hk
    obtain ⟨b0, b1, b2, b3, b4⟩ := cell5 hbox
    obtain ⟨r0, r1, r2, r3, r4⟩ := cell5 hres
    have f1 := free3 hbox 1
    have g0 := free3 hres 0
    have g1 := free3 hres 1
    have g2 := free3 hres 2
    have g3 := free3 hres 3
    have g4 := free3 hres 4
    clear C K2 BX hbox hres hk
    go_wp2
    refine bodyPost_ret (v := .agg #[.int .i64 1, .int .u64 z, .int .i64 0, .bool false, .slice none 0 0]) (by simp [results, Try.results22, go_sem, *]) rfl ⟨_, rfl, rd_nil _, fresh_nil _, ?_, ?_⟩
    · repeat (refine Rr.andSet ?_ _ _ (by simp; omega) (by simp; omega))
      exact hr
    · repeat (refine Kp.andSetS ?_ _ _ (by simp))
      exact hkw
  by_cases h2 : kind = 2
  · subst h2
    have C := fun w1 k => ru16_any (R w1 k) hB
    have e : tk 2 n err xs = ⟨(rdN 2 err xs).1, 0, false, [], (rdN 2 err xs).2.1, (rdN 2 err xs).2.2⟩ := by simp [tk, tkN]
    rw [e]
    clear e
    obtain ⟨z0, z1⟩ : 0 ≤ (rdN 2 err xs).1 ∧ (rdN 2 err xs).1 < 65536 := by simpa using rdN_range (n := 2) (err := err) hB
    generalize (rdN 2 err xs).1 = z at *
    generalize (rdN 2 err xs).2.1 = q at *
    generalize (rdN 2 err xs).2.2 = rs at *
    clear hB h R
    go_enter Try.func22, Try.ntmps22
    go_wp2_with fail
    refine Calls.mono (C _ (K2 _ _)) ?_; rintro e w1 ⟨rfl, hr, hk⟩
    obtain ⟨hbox, hres, hkw⟩ := BX _ _ hk
    obtain ⟨b0, b1, b2, b3, b4⟩ := cell5 hbox
    obtain ⟨r0, r1, r2, r3, r4⟩ := cell5 hres
    have f1 := free3 hbox 1
    have g0 := free3 hres 0
    have g1 := free3 hres 1
    have g2 := free3 hres 2
    have g3 := free3 hres 3
    have g4 := free3 hres 4
    clear C K2 BX hbox hres hk
    go_wp2
    refine bodyPost_ret (v := .agg #[.int .i64 2, .int .u64 z, .int .i64 0, .bool false, .slice none 0 0]) (by simp [results, Try.results22, go_sem, *]) rfl ⟨_, rfl, rd_nil _, fresh_nil _, ?_, ?_⟩
    · repeat (refine Rr.andSet ?_ _ _ (by simp; omega) (by simp; omega))
      exact hr
    · repeat (refine Kp.andSetS ?_ _ _ (by simp))
      exact hkw
  by_cases h3 : kind = 3
  · subst h3
    have C := fun w1 k => ru32_any (R w1 k) hB
    have e : tk 3 n err xs = ⟨(rdN 4 err xs).1, 0, false, [], (rdN 4 err xs).2.1, (rdN 4 err xs).2.2⟩ := by simp [tk, tkN]
    rw [e]
    clear e
    obtain ⟨z0, z1⟩ : 0 ≤ (rdN 4 err xs).1 ∧ (rdN 4 err xs).1 < 4294967296 := by simpa using rdN_range (n := 4) (err := err) hB
    generalize (rdN 4 err xs).1 = z at *
    generalize (rdN 4 err xs).2.1 = q at *
    generalize (rdN 4 err xs).2.2 = rs at *
    clear hB h R
    go_enter Try.func22, Try.ntmps22
    go_wp2_with fail
    refine Calls.mono (C _ (K2 _ _)) ?_; rintro e w1 ⟨rfl, hr, hk⟩
    obtain ⟨hbox, hres, hkw⟩ := BX _ _ hk
    obtain ⟨b0, b1, b2, b3, b4⟩ := cell5 hbox
    obtain ⟨r0, r1, r2, r3, r4⟩ := cell5 hres
    have f1 := free3 hbox 1
    have g0 := free3 hres 0
    have g1 := free3 hres 1
    have g2 := free3 hres 2
    have g3 := free3 hres 3
    have g4 := free3 hres 4
    clear C K2 BX hbox hres hk
    go_wp2
    refine bodyPost_ret (v := .agg #[.int .i64 3, .int .u64 z, .int .i64 0, .bool false, .slice none 0 0]) (by simp [results, Try.results22, go_sem, *]) rfl ⟨_, rfl, rd_nil _, fresh_nil _, ?_, ?_⟩
    · repeat (refine Rr.andSet ?_ _ _ (by simp; omega) (by simp; omega))
      exact hr
    · repeat (refine Kp.andSetS ?_ _ _ (by simp))
      exact hkw
  by_cases h4 : kind = 4
  · subst h4
    have C := fun w1 k => ru64_any (R w1 k) hB
    have e : tk 4 n err xs = ⟨(rdN 8 err xs).1, 0, false, [], (rdN 8 err xs).2.1, (rdN 8 err xs).2.2⟩ := by simp [tk, tkN]
    rw [e]
    clear e
    obtain ⟨z0, z1⟩ : 0 ≤ (rdN 8 err xs).1 ∧ (rdN 8 err xs).1 < 18446744073709551616 := by simpa using rdN_range (n := 8) (err := err) hB
    generalize (rdN 8 err xs).1 = z at *
    generalize (rdN 8 err xs).2.1 = q at *
    generalize (rdN 8 err xs).2.2 = rs at *
    clear hB h R
    go_enter Try.func22, Try.ntmps22
    go_wp2_with fail
    refine Calls.mono (C _ (K2 _ _)) ?_; rintro e w1 ⟨rfl, hr, hk⟩
    obtain ⟨hbox, hres, hkw⟩ := BX _ _ hk
    obtain ⟨b0, b1, b2, b3, b4⟩ := cell5 hbox
    obtain ⟨r0, r1, r2, r3, r4⟩ := cell5 hres
    have f1 := free3 hbox 1
    have g0 := free3 hres 0
    have g1 := free3 hres 1
    have g2 := free3 hres 2
    have g3 := free3 hres 3
    have g4 := free3 hres 4
    clear C K2 BX hbox hres hk
    go_wp2
    refine bodyPost_ret (v := .agg #[.int .i64 4, .int .u64 z, .int .i64 0, .bool false, .slice none 0 0]) (by simp [results, Try.results22, go_sem, *]) rfl ⟨_, rfl, rd_nil _, fresh_nil _, ?_, ?_⟩
    · repeat (refine Rr.andSet ?_ _ _ (by simp; omega) (by simp; omega))
      exact hr
    · repeat (refine Kp.andSetS ?_ _ _ (by simp))
      exact hkw
  by_cases h5 : kind = 5
  · subst h5
    have C := fun w1 k => rvarint_any (R w1 k) hB
    have e : tk 5 n err xs = ⟨(rdV err xs).1, 0, false, [], (rdV err xs).2.1, (rdV err xs).2.2⟩ := by simp [tk, tkN]
    rw [e]
    clear e
    obtain ⟨z0, z1⟩ := rdV_range (err := err) hB
    generalize (rdV err xs).1 = z at *
    generalize (rdV err xs).2.1 = q at *
    generalize (rdV err xs).2.2 = rs at *
    clear hB h R
    go_enter Try.func22, Try.ntmps22
    go_wp2_with fail
    refine Calls.mono (C _ (K2 _ _)) ?_; rintro e w1 ⟨rfl, hr, hk⟩
    obtain ⟨hbox, hres, hkw⟩ := BX _ _ hk
    obtain ⟨b0, b1, b2, b3, b4⟩ := cell5 hbox
    obtain ⟨r0, r1, r2, r3, r4⟩ := cell5 hres
    have f1 := free3 hbox 1
    have g0 := free3 hres 0
    have g1 := free3 hres 1
    have g2 := free3 hres 2
    have g3 := free3 hres 3
    have g4 := free3 hres 4
    clear C K2 BX hbox hres hk
    go_wp2
    refine bodyPost_ret (v := .agg #[.int .i64 5, .int .u64 z, .int .i64 0, .bool false, .slice none 0 0]) (by simp [results, Try.results22, go_sem, *]) rfl ⟨_, rfl, rd_nil _, fresh_nil _, ?_, ?_⟩
    · repeat (refine Rr.andSet ?_ _ _ (by simp; omega) (by simp; omega))
      exact hr
    · repeat (refine Kp.andSetS ?_ _ _ (by simp))
      exact hkw
  by_cases h6 : kind = 6
  · subst h6
    have C := fun w1 k => rsigned_any (R w1 k) hB
    have e : tk 6 n err xs = ⟨0, uz (rdV err xs).1, false, [], (rdV err xs).2.1, (rdV err xs).2.2⟩ := by simp [tk]
    rw [e]
    clear e
    generalize uz (rdV err xs).1 = z at *
    generalize (rdV err xs).2.1 = q at *
    generalize (rdV err xs).2.2 = rs at *
    clear hB h R
    go_enter Try.func22, Try.ntmps22
    go_wp2_with fail
    refine Calls.mono (C _ (K2 _ _)) ?_; rintro e w1 ⟨rfl, hr, hk⟩
    obtain ⟨hbox, hres, hkw⟩ := BX _ _ hk
    obtain ⟨b0, b1, b2, b3, b4⟩ := cell5 hbox
    obtain ⟨r0, r1, r2, r3, r4⟩ := cell5 hres
    have f1 := free3 hbox 2
    have g0 := free3 hres 0
    have g1 := free3 hres 1
    have g2 := free3 hres 2
    have g3 := free3 hres 3
    have g4 := free3 hres 4
    clear C K2 BX hbox hres hk
    go_wp2
    refine bodyPost_ret (v := .agg #[.int .i64 6, .int .u64 0, .int .i64 z, .bool false, .slice none 0 0]) (by simp [results, Try.results22, go_sem, *]) rfl ⟨_, rfl, rd_nil _, fresh_nil _, ?_, ?_⟩
    · repeat (refine Rr.andSet ?_ _ _ (by simp; omega) (by simp; omega))
      exact hr
    · repeat (refine Kp.andSetS ?_ _ _ (by simp))
      exact hkw
  by_cases h7 : kind = 7
  · subst h7
    have C := fun w1 k => rflag_any (R w1 k) hB
    have e : tk 7 n err xs = ⟨0, 0, (rdF err xs).1, [], (rdF err xs).2.1, (rdF err xs).2.2⟩ := by simp [tk]
    rw [e]
    clear e
    generalize (rdF err xs).1 = z at *
    generalize (rdF err xs).2.1 = q at *
    generalize (rdF err xs).2.2 = rs at *
    clear hB h R
    go_enter Try.func22, Try.ntmps22
    go_wp2_with fail
    refine Calls.mono (C _ (K2 _ _)) ?_; rintro e w1 ⟨rfl, hr, hk⟩
    obtain ⟨hbox, hres, hkw⟩ := BX _ _ hk
    obtain ⟨b0, b1, b2, b3, b4⟩ := cell5 hbox
    obtain ⟨r0, r1, r2, r3, r4⟩ := cell5 hres
    have f1 := free3 hbox 3
    have g0 := free3 hres 0
    have g1 := free3 hres 1
    have g2 := free3 hres 2
    have g3 := free3 hres 3
    have g4 := free3 hres 4
    clear C K2 BX hbox hres hk
    go_wp2
    refine bodyPost_ret (v := .agg #[.int .i64 7, .int .u64 0, .int .i64 0, .bool z, .slice none 0 0]) (by simp [results, Try.results22, go_sem, *]) rfl ⟨_, rfl, rd_nil _, fresh_nil _, ?_, ?_⟩
    · repeat (refine Rr.andSet ?_ _ _ (by simp; omega) (by simp; omega))
      exact hr
    · repeat (refine Kp.andSetS ?_ _ _ (by simp))
      exact hkw
  by_cases h8 : kind = 8
  · subst h8
    have C := fun w1 k => rraw_any (R w1 k) n
    have e : tk 8 n err xs = ⟨0, 0, false, (rdR n err xs).1, (rdR n err xs).2.1, (rdR n err xs).2.2⟩ := by simp [tk, tkB]
    rw [e]
    clear e
    generalize (rdR n err xs).1 = z at *
    generalize (rdR n err xs).2.1 = q at *
    generalize (rdR n err xs).2.2 = rs at *
    clear hB h R
    go_enter Try.func22, Try.ntmps22
    go_wp2_with fail
    refine Calls.mono (C _ (K2 _ _)) ?_; rintro e w1 ⟨u, rfl, hu, hfr, hr, hk⟩
    have hfu : ∀ G, at? u = some G → w.heap.size + 2 ≤ G := by
      intro G hG
      rcases hfr with e | ⟨G', hG', e⟩
      · rw [e] at hG; cases hG
      · rw [e] at hG; cases hG; simpa using hG'
    have hfs : fresh w.heap.size u := by
      rcases hfr with e | ⟨G', hG', e⟩
      · exact .inl e
      · exact .inr ⟨G', by simp at hG'; omega, e⟩
    obtain ⟨ad', cap', hu'⟩ := hu.slice
    generalize z.length = zl at hu'
    subst hu'
    have HFU := hide hfu
    clear hfr hfu
    obtain ⟨hbox, hres, hkw⟩ := BX _ _ hk
    obtain ⟨b0, b1, b2, b3, b4⟩ := cell5 hbox
    obtain ⟨r0, r1, r2, r3, r4⟩ := cell5 hres
    have f1 := free3 hbox 4
    have g0 := free3 hres 0
    have g1 := free3 hres 1
    have g2 := free3 hres 2
    have g3 := free3 hres 3
    have g4 := free3 hres 4
    clear C K2 BX hbox hres hk
    go_wp2
    refine bodyPost_ret (v := .agg #[.int .i64 8, .int .u64 0, .int .i64 0, .bool false, .slice ad' zl cap']) (by simp [results, Try.results22, go_sem, *]) rfl ⟨_, rfl, ?_, hfs, ?_, ?_⟩
    · have hfu := HFU.out
      repeat (refine Rd.andSet ?_ _ _ (fun e => by have := hfu _ e; simp only at this; omega))
      exact hu
    · repeat (refine Rr.andSet ?_ _ _ (by simp; omega) (by simp; omega))
      exact hr
    · repeat (refine Kp.andSetS ?_ _ _ (by simp))
      exact hkw
  by_cases h9 : kind = 9
  · subst h9
    have C := fun w1 k => rblock_any (R w1 k) hB n hn
    have e : tk 9 n err xs = ⟨0, 0, false, (rdB n err xs).1, (rdB n err xs).2.1, (rdB n err xs).2.2⟩ := by simp [tk, tkB]
    rw [e]
    clear e
    generalize (rdB n err xs).1 = z at *
    generalize (rdB n err xs).2.1 = q at *
    generalize (rdB n err xs).2.2 = rs at *
    clear hB h R
    go_enter Try.func22, Try.ntmps22
    go_wp2_with fail
    refine Calls.mono (C _ (K2 _ _)) ?_; rintro e w1 ⟨u, rfl, hu, hfr, hr, hk⟩
    have hfu : ∀ G, at? u = some G → w.heap.size + 2 ≤ G := by
      intro G hG
      rcases hfr with e | ⟨G', hG', e⟩
      · rw [e] at hG; cases hG
      · rw [e] at hG; cases hG; simpa using hG'
    have hfs : fresh w.heap.size u := by
      rcases hfr with e | ⟨G', hG', e⟩
      · exact .inl e
      · exact .inr ⟨G', by simp at hG'; omega, e⟩
    obtain ⟨ad', cap', hu'⟩ := hu.slice
    generalize z.length = zl at hu'
    subst hu'
    have HFU := hide hfu
    clear hfr hfu
    obtain ⟨hbox, hres, hkw⟩ := BX _ _ hk
    obtain ⟨b0, b1, b2, b3, b4⟩ := cell5 hbox
    obtain ⟨r0, r1, r2, r3, r4⟩ := cell5 hres
    have f1 := free3 hbox 4
    have g0 := free3 hres 0
    have g1 := free3 hres 1
    have g2 := free3 hres 2
    have g3 := free3 hres 3
    have g4 := free3 hres 4
    clear C K2 BX hbox hres hk
    go_wp2
    refine bodyPost_ret (v := .agg #[.int .i64 9, .int .u64 0, .int .i64 0, .bool false, .slice ad' zl cap']) (by simp [results, Try.results22, go_sem, *]) rfl ⟨_, rfl, ?_, hfs, ?_, ?_⟩
    · have hfu := HFU.out
      repeat (refine Rd.andSet ?_ _ _ (fun e => by have := hfu _ e; simp only at this; omega))
      exact hu
    · repeat (refine Rr.andSet ?_ _ _ (by simp; omega) (by simp; omega))
      exact hr
    · repeat (refine Kp.andSetS ?_ _ _ (by simp))
      exact hkw
  have e : tk kind n err xs = ⟨0, 0, false, [], err, xs⟩ := by
    simp only [tk, if_neg h1, if_neg h2, if_neg h3, if_neg h4, if_neg h5, if_neg h6, if_neg h7, if_neg h8, if_neg h9]
  rw [e]
  clear e hB BX K2 R
  go_enter Try.func22, Try.ntmps22
  go_wp2
  refine bodyPost_ret (v := .agg #[.int .i64 kind, .int .u64 0, .int .i64 0, .bool false, .slice none 0 0]) (by simp [results, Try.results22, go_sem]) rfl ⟨_, rfl, rd_nil _, fresh_nil _, ⟨v, h.keeps (((Kp.refl Nu w).andAlloc _).andAlloc _) (fun h => h) (fun h => h)⟩, ?_⟩
  exact (((Kp.refl Nu w).andAlloc _).andAlloc _).mono (fun _ _ h => h.elim)
end Go.Proofs.Ytgaehpdlljlliaa.Cd
