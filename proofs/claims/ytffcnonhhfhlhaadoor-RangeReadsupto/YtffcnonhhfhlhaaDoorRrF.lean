import Derived.Test.YtffcnonhhfhlhaaDoorRrE
namespace Go.Proofs.YtffcnonhhfhlhaaDoor.Ws
open Go.RowKit Go.Shelf Go.Sort
open Go.Proofs.YtffcnonhhfhlhaaDoor.Rg (Kp Nu Sg cells cellsG lays Frs Lrs)
set_option linter.unusedVariables false
set_option linter.unusedSimpArgs false
theorem big10 (n : Nat) (h : n ≤ 1048577) : n + 1 ≤ maxLen ∧ (n + 1) * 24 ≤ 140737488355328 ∧ (n + 1) * 8 ≤ 140737488355328 := by unfold maxLen; omega
theorem wk1 (k : Int) (h0 : 0 ≤ k) (h1 : k ≤ 1048577) : wrap64 (k + 1) = k + 1 := by unfold wrap64; omega
theorem stp1 {k Z : Nat} (h : k ≤ Z) : k + 1 ≤ Z + 1 := by omega
theorem mea1 {k Z : Nat} (h : k ≤ Z) : Z + 1 - (intOf (.int .i64 ((k : Int) + 1))).toNat < Z + 1 - (intOf (.int .i64 (k : Int))).toNat := by simp [intOf]; omega
/-- what is answered of a bad word -/
theorem rf_bad {w V : World} {B k F N : Nat} {l : List UInt8} {ad ad2 : Option Addr} {cp cp2 : Nat} {lim L : Int} {v : Value} {W' : World} (hlim : 1 ≤ lim ∧ lim ≤ 8192) (h : Lp w B l k F N ad cp ad2 cp2 V) {x : List UInt8} (hx : ∀ pre, off pre = F → Rst l pre k → pre ++ [x] <+: spl 32 l) (hs : segF x = none) : RfR w W' lim l L v (F : Int) 64 := by
  obtain ⟨pre, S, h1, h2, h3, h4, h5⟩ := h
  exact .inr (.inl ⟨hlim, pre, x, hx pre h1 h2, all_seg h3, hs, by rw [h1], rfl⟩)
set_option maxRecDepth 100000 in
set_option maxHeartbeats 4000000 in
theorem refRead33 (l : List UInt8) (hl : l.length ≤ 1048576) (lim : Int) (w : World) (hlim : 1 ≤ lim ∧ lim ≤ 8192) :
    Calls Tryd.prog 33 #[str l, .int .i64 lim] w fun e w' => ∃ L v at_ c, e = .returned (.tuple #[.agg #[.int .i64 L, v], .int .i64 at_, .int .i64 c]) ∧ RfR w w' lim l L v at_ c ∧ (∃ ad n cp, v = .slice ad n cp) ∧ Kp Nu w w' := by
  have mixed : Tryd.prog.follows .mixedOrders = true := by kernel_rfl
  obtain ⟨i0, hi, hz0, hz1, hz2⟩ := info_parts Rg.info40
  obtain ⟨i3, hi3, hy0, hy1, hy2⟩ := info_parts info3r
  have K0 := Kp.alloc w (.cells #[.int .i64 0, .slice none 0 0] 29) Nu
  have xA := heap_alloc_new w (.cells #[.int .i64 0, .slice none 0 0] 29)
  have hsA : (w.alloc (.cells #[.int .i64 0, .slice none 0 0] 29)).heap.size = w.heap.size + 1 := by simp
  obtain ⟨w0, ew0⟩ : ∃ w0, w.alloc (.cells #[.int .i64 0, .slice none 0 0] 29) = w0 := ⟨_, rfl⟩
  rw [ew0] at K0 xA hsA
  obtain ⟨B, eB⟩ : ∃ B, w.heap.size + 1 = B := ⟨_, rfl⟩
  have HL0 : Hid (Lp w B l 0 0 0 none 0 none 0 w0) := hide ⟨[], [], rfl, Rst.start l, rfl, rfl, World.ownsRow_nil _ _ _ _, World.ownsRow_nil _ _ _ _, xA, K0, by omega, by omega⟩
  have hlimA := hlim.1
  have hlimB := hlim.2
  have HLM := hide (And.intro hlim hl)
  have l1 : ¬ lim < 1 := by omega
  have l2 : ¬ lim > 8192 := by omega
  have l1' : decide (lim < 1) = false := by simpa using l1
  have l2' : decide (lim > 8192) = false := by simpa using l2
  obtain ⟨s, es⟩ : ∃ s : ByteArray, (⟨l.toArray⟩ : ByteArray) = s := ⟨_, rfl⟩
  have hsz : s.size = l.length := by rw [← es]; simp [ByteArray.size]
  have hsl : s.data.toList = l := by rw [← es]
  obtain ⟨Z, eZ⟩ : ∃ Z, s.size = Z := ⟨_, rfl⟩
  have HZ := hide (And.intro eZ (And.intro hsz (And.intro hsl es)))
  have hZ : (Z : Int) ≤ 1048576 := by omega
  unfold str
  rw [es]
  clear K0 xA hsA hlim hl hsz hsl es eB hlimA hlimB
  go_enter Tryd.func33, Tryd.ntmps33
  go_wp2_with fail
  clear l1 l2 l1' l2'
  go_loopw [7, 8, 9, 10] (fun sl sa fr i wr => ∃ (k F N : Nat) (ad : Option Addr) (cp : Nat) (ad2 : Option Addr) (cp2 : Nat), i = .int .i64 (k : Int) ∧ fr = .int .i64 (F : Int) ∧ sl = .slice ad N cp ∧ sa = .slice ad2 N cp2 ∧ k ≤ Z + 1 ∧ Hid (Lp w B l k F N ad cp ad2 cp2 wr)) (fun _ _ _ i _ => Z + 1 - (intOf i).toNat)
  case atStart => exact ⟨0, 0, 0, none, 0, none, 0, rfl, rfl, rfl, rfl, Nat.zero_le _, HL0⟩
  case round =>
    obtain ⟨k, F, N, ad, cp, ad2, cp2, rfl, rfl, rfl, rfl, hk, hI⟩ := hrel
    clear HL0
    obtain ⟨hFk, hNF⟩ := hI.out.le
    by_cases hkZ : k ≤ Z
    · have a1 : (k : Int) ≤ (Z : Int) := by omega
      have a2 : decide ((k : Int) ≤ (Z : Int)) = true := by simpa using a1
      have ez := HZ.out.1
      have a3 : (k : Int) ≤ (s.size : Int) := by omega
      have a0 : (0 : Int) ≤ (k : Int) := by omega
      have f0 : (0 : Int) ≤ (F : Int) := by omega
      have f1 : (F : Int) ≤ (k : Int) := by omega
      have kB : (k : Int) ≤ 1048577 := by omega
      have stepT : ∀ (hw : k = Z ∨ ∃ h : k < s.size, s[k] = 32), ∀ pre, off pre = F → Rst l pre k → Rst l (pre ++ [wrdA l pre k]) (k + 1) ∧ pre ++ [wrdA l pre k] <+: spl 32 l ∧ off (pre ++ [wrdA l pre k]) = k + 1 := fun hw pre hp hR => by
        rcases hw with hw | ⟨h, hw⟩
        · exact hR.last (by rw [← HZ.out.2.1, HZ.out.1]; exact hw)
        · exact hR.blank (by rw [← HZ.out.2.2.1, at_some h, hw])
      by_cases hend : k = Z ∨ ∃ h : k < s.size, s[k] = 32
      · have HST := hide (stepT hend)
        have WD := word66 (s.extract F k) wr (by rw [ByteArray.size_extract]; omega)
        have hWx : ∀ pre, off pre = F → (s.extract F k).data.toList = wrdA l pre k := fun pre hp => by rw [← HZ.out.2.2.2]; exact ext_wrd hp
        obtain ⟨X, eX⟩ : ∃ X, (s.extract F k).data.toList = X := ⟨_, rfl⟩
        rw [eX] at WD
        have HWX := hide (And.intro eX hWx)
        have b1 : ((k : Int) == (Z : Int)) = true ∨ (((k : Int) == (Z : Int)) = false ∧ ∃ h : k < s.size, ((s[k].toNat : Int) == 32) = true ∧ (k : Int) < (s.size : Int)) := by
          by_cases e : k = Z
          · left; simp; omega
          · right
            refine ⟨by simp; omega, ?_⟩
            rcases hend with h | ⟨h, h2⟩
            · exact absurd h e
            · exact ⟨h, by rw [h2]; rfl, by omega⟩
        have HIk := hide (And.intro hk hkZ)
        have t1 : (F : Int).toNat = F := by omega
        have t2 : (k : Int).toNat = k := by omega
        clear stepT hend hWx eX ez
        rcases b1 with b1 | ⟨b1, hks, b2, b3⟩
        · go_wp2_with fail
          refine WD.mono ?_; rintro e V1 ⟨hS, kV1⟩
          obtain ⟨pre, S, h1, h2, h3, h4, h5⟩ := hI.out
          obtain ⟨hst1, hst2, hst3⟩ := HST.out pre h1 h2
          have hXX : X = wrdA l pre k := by rw [← HWX.out.1]; exact HWX.out.2 pre h1
          rcases hS with ⟨hno, rfl⟩ | ⟨g, hg, rfl⟩
          · have kA := Kp.alloc V1 (.cells #[.int .u64 0, .int .u64 0, .int .u8 0] 26) Nu
            have R2 := h5.nu (kV1.andNu kA)
            obtain ⟨c0, c1⟩ := Rg.cell2' R2.rs
            have g0 := Rg.free3 R2.rs 0
            have g1 := Rg.free3 R2.rs 1
            have HF := hide (R2.res (.int .i64 0) (.slice none 0 0))
            obtain ⟨y0, y1⟩ := Rg.cell2' HF.out.1
            have HB := fun W' => hide (rf_bad (L := 0) (v := .slice none 0 0) (W' := W') HLM.out.1 hI.out (x := X) (fun pre' e1 e2 => by
              have e3 : X = wrdA l pre' k := by rw [← HWX.out.1]; exact HWX.out.2 pre' e1
              rw [e3]
              exact (HST.out pre' e1 e2).2.1) hno)
            clear WD hI HST HWX h1 h2 h3 h4 h5 hst1 hst2 hst3 hXX hno kV1 kA R2
            go_wp2
            refine bodyPost_ret (v := .tuple #[.agg #[.int .i64 0, .slice none 0 0], .int .i64 (F : Int), .int .i64 64]) (by simp [results, Tryd.results33, go_sem, y0, y1]) rfl ?_
            exact ⟨0, _, _, _, rfl, (HB _).out, ⟨_, _, _, rfl⟩, HF.out.2⟩
          · have kA := Kp.alloc V1 (.cells #[.int .u64 g.lo, .int .u64 g.hi, .int .u8 g.h] 26) Nu
            have xB := heap_alloc_new V1 (.cells #[.int .u64 g.lo, .int .u64 g.hi, .int .u8 g.h] 26)
            obtain ⟨V2, eV2⟩ : ∃ V2, V1.alloc (.cells #[.int .u64 g.lo, .int .u64 g.hi, .int .u8 g.h] 26) = V2 := ⟨_, rfl⟩
            rw [eV2] at kA xB
            have R2 := h5.nu (kV1.andNu kA)
            have R3 := hide (R2.nu (Kp.alloc V2 (.cells #[.int .u64 g.lo, .int .u64 g.hi, .int .u8 g.h] 26) Nu))
            obtain ⟨c0, c1, c2⟩ := Rg.cell3 xB
            have HG := hide (And.intro h1 (And.intro h3 (And.intro h4 (And.intro hst1 (And.intro hst3 (And.intro hXX hg))))))
            have hNb : N ≤ 1048577 := by omega
            have BG := hide (big10 N hNb)
            clear WD hI HST HWX h1 h2 h3 h4 h5 hst1 hst2 hst3 hXX hg kV1 kA R2 xB hNb hNF
            go_wp2_with (at_builtin; refine Rg.unhid ?_)
            refine wpList_append_own_at _ rfl (.tmp 51) (.tmp 53) 22 rfl B 26 i0 (.agg #[.int .u64 0, .int .u64 0, .int .u8 0]) 3 24 Tryd.underlying22 hi hz0 hz1 hz2 rfl (by decide) (.slice ad N cp) N (cells S) rfl R3.out.o1 ⟨V2.heap.size, 0, none⟩ 1 1 [.int .u64 g.lo, .int .u64 g.hi, .int .u8 g.h] rfl rfl (Rg.cell_three_new V2 _ _ _ _) (by simp [Value.oneCell']) BG.out.1 BG.out.2.1 R3.out.hi ?_
            intro v4 w4 ho4 hg4 hnil4 hat4
            obtain ⟨ad4, cp4, ev⟩ := Rg.own_slice ho4
            subst ev
            have R5 := hide ((R3.out.push1 ho4 hg4).nu (Kp.alloc w4 (.cells #[.int .i64 (F : Int)] 3) Nu))
            clear ho4 hg4 hnil4 hat4 R3 c0 c1 c2 eV2
            go_wp2_with (at_builtin; refine Rg.unhid ?_)
            refine wpList_append_own_at _ rfl (.tmp 55) (.tmp 57) 115 rfl B 3 i3 (.int .i64 0) 1 8 Tryd.underlying115 hi3 hy0 hy1 hy2 rfl (by decide) (.slice ad2 N cp2) N (begs pre) rfl R5.out.o2 ⟨w4.heap.size, 0, none⟩ 1 1 [.int .i64 (F : Int)] rfl rfl (cell_one_new w4 _ _) (by simp [Value.oneCell']) BG.out.1 BG.out.2.2 R5.out.hi ?_
            intro v6 w6 ho6 hg6 hnil6 hat6
            obtain ⟨ad6, cp6, ev⟩ := Rg.own_slice ho6
            subst ev
            have R6 := R5.out.push2 ho6 hg6
            have HN : Hid (Lp w B l (k + 1) (k + 1) (N + 1) ad4 cp4 ad6 cp6 w6) := by
              obtain ⟨h1, h3, h4, hst1, hst3, hXX, hg⟩ := HG.out
              rw [hXX] at hg
              refine hide ⟨pre ++ [wrdA l pre k], S ++ [g], hst3, hst1, h3.snoc hg, by rw [List.length_append, h4]; rfl, ?_⟩
              rw [begs_snoc, h1]
              exact R6
            have w1 : wrap64 ((k : Int) + 1) = (k : Int) + 1 := wk1 _ a0 kB
            clear ho6 hg6 hnil6 hat6 R5 R6 HG a1 a2 a3 f0 f1 hFk t1 t2 hk hkZ hZ HLM
            go_wp2_with fail
            exact ⟨⟨k + 1, k + 1, N + 1, _, _, _, _, by go_num, by go_num, rfl, rfl, stp1 HIk.out.2, HN⟩, mea1 HIk.out.2⟩
        · go_wp2_with fail
          generalize (Value.int .u8 ((s[k]'hks).toNat : Int)) = uu
          refine WD.mono ?_; rintro e V1 ⟨hS, kV1⟩
          obtain ⟨pre, S, h1, h2, h3, h4, h5⟩ := hI.out
          obtain ⟨hst1, hst2, hst3⟩ := HST.out pre h1 h2
          have hXX : X = wrdA l pre k := by rw [← HWX.out.1]; exact HWX.out.2 pre h1
          rcases hS with ⟨hno, rfl⟩ | ⟨g, hg, rfl⟩
          · have kA := Kp.alloc V1 (.cells #[.int .u64 0, .int .u64 0, .int .u8 0] 26) Nu
            have R2 := h5.nu (kV1.andNu kA)
            obtain ⟨c0, c1⟩ := Rg.cell2' R2.rs
            have g0 := Rg.free3 R2.rs 0
            have g1 := Rg.free3 R2.rs 1
            have HF := hide (R2.res (.int .i64 0) (.slice none 0 0))
            obtain ⟨y0, y1⟩ := Rg.cell2' HF.out.1
            have HB := fun W' => hide (rf_bad (L := 0) (v := .slice none 0 0) (W' := W') HLM.out.1 hI.out (x := X) (fun pre' e1 e2 => by
              have e3 : X = wrdA l pre' k := by rw [← HWX.out.1]; exact HWX.out.2 pre' e1
              rw [e3]
              exact (HST.out pre' e1 e2).2.1) hno)
            clear WD hI HST HWX h1 h2 h3 h4 h5 hst1 hst2 hst3 hXX hno kV1 kA R2
            go_wp2
            refine bodyPost_ret (v := .tuple #[.agg #[.int .i64 0, .slice none 0 0], .int .i64 (F : Int), .int .i64 64]) (by simp [results, Tryd.results33, go_sem, y0, y1]) rfl ?_
            exact ⟨0, _, _, _, rfl, (HB _).out, ⟨_, _, _, rfl⟩, HF.out.2⟩
          · have kA := Kp.alloc V1 (.cells #[.int .u64 g.lo, .int .u64 g.hi, .int .u8 g.h] 26) Nu
            have xB := heap_alloc_new V1 (.cells #[.int .u64 g.lo, .int .u64 g.hi, .int .u8 g.h] 26)
            obtain ⟨V2, eV2⟩ : ∃ V2, V1.alloc (.cells #[.int .u64 g.lo, .int .u64 g.hi, .int .u8 g.h] 26) = V2 := ⟨_, rfl⟩
            rw [eV2] at kA xB
            have R2 := h5.nu (kV1.andNu kA)
            have R3 := hide (R2.nu (Kp.alloc V2 (.cells #[.int .u64 g.lo, .int .u64 g.hi, .int .u8 g.h] 26) Nu))
            obtain ⟨c0, c1, c2⟩ := Rg.cell3 xB
            have HG := hide (And.intro h1 (And.intro h3 (And.intro h4 (And.intro hst1 (And.intro hst3 (And.intro hXX hg))))))
            have hNb : N ≤ 1048577 := by omega
            have BG := hide (big10 N hNb)
            clear WD hI HST HWX h1 h2 h3 h4 h5 hst1 hst2 hst3 hXX hg kV1 kA R2 xB hNb hNF
            go_wp2_with (at_builtin; refine Rg.unhid ?_)
            refine wpList_append_own_at _ rfl (.tmp 51) (.tmp 53) 22 rfl B 26 i0 (.agg #[.int .u64 0, .int .u64 0, .int .u8 0]) 3 24 Tryd.underlying22 hi hz0 hz1 hz2 rfl (by decide) (.slice ad N cp) N (cells S) rfl R3.out.o1 ⟨V2.heap.size, 0, none⟩ 1 1 [.int .u64 g.lo, .int .u64 g.hi, .int .u8 g.h] rfl rfl (Rg.cell_three_new V2 _ _ _ _) (by simp [Value.oneCell']) BG.out.1 BG.out.2.1 R3.out.hi ?_
            intro v4 w4 ho4 hg4 hnil4 hat4
            obtain ⟨ad4, cp4, ev⟩ := Rg.own_slice ho4
            subst ev
            have R5 := hide ((R3.out.push1 ho4 hg4).nu (Kp.alloc w4 (.cells #[.int .i64 (F : Int)] 3) Nu))
            clear ho4 hg4 hnil4 hat4 R3 c0 c1 c2 eV2
            go_wp2_with (at_builtin; refine Rg.unhid ?_)
            refine wpList_append_own_at _ rfl (.tmp 55) (.tmp 57) 115 rfl B 3 i3 (.int .i64 0) 1 8 Tryd.underlying115 hi3 hy0 hy1 hy2 rfl (by decide) (.slice ad2 N cp2) N (begs pre) rfl R5.out.o2 ⟨w4.heap.size, 0, none⟩ 1 1 [.int .i64 (F : Int)] rfl rfl (cell_one_new w4 _ _) (by simp [Value.oneCell']) BG.out.1 BG.out.2.2 R5.out.hi ?_
            intro v6 w6 ho6 hg6 hnil6 hat6
            obtain ⟨ad6, cp6, ev⟩ := Rg.own_slice ho6
            subst ev
            have R6 := R5.out.push2 ho6 hg6
            have HN : Hid (Lp w B l (k + 1) (k + 1) (N + 1) ad4 cp4 ad6 cp6 w6) := by
              obtain ⟨h1, h3, h4, hst1, hst3, hXX, hg⟩ := HG.out
              rw [hXX] at hg
              refine hide ⟨pre ++ [wrdA l pre k], S ++ [g], hst3, hst1, h3.snoc hg, by rw [List.length_append, h4]; rfl, ?_⟩
              rw [begs_snoc, h1]
              exact R6
            have w1 : wrap64 ((k : Int) + 1) = (k : Int) + 1 := wk1 _ a0 kB
            clear ho6 hg6 hnil6 hat6 R5 R6 HG a1 a2 a3 f0 f1 hFk t1 t2 hk hkZ hZ HLM
            go_wp2_with fail
            exact ⟨⟨k + 1, k + 1, N + 1, _, _, _, _, by go_num, by go_num, rfl, rfl, stp1 HIk.out.2, HN⟩, mea1 HIk.out.2⟩
      · have hne : ¬ k = Z := fun e => hend (.inl e)
        have hks : k < s.size := by omega
        have h32 : s[k] ≠ 32 := fun e => hend (.inr ⟨hks, e⟩)
        have b1 : ((k : Int) == (Z : Int)) = false := by simp; omega
        have b2 : ((s[k].toNat : Int) == 32) = false := by
          simp only [beq_eq_false_iff_ne]
          intro e
          exact h32 (UInt8.toNat_inj.1 (by show s[k].toNat = 32; omega))
        have a4 : (k : Int) < (s.size : Int) := by omega
        have HN : Hid (Lp w B l (k + 1) F N ad cp ad2 cp2 wr) := by
          obtain ⟨pre, S, h1, h2, h3, h4, h5⟩ := hI.out
          exact hide ⟨pre, S, h1, h2.next (by rw [← HZ.out.2.2.1]; exact at_some hks) h32, h3, h4, h5⟩
        have w1 : wrap64 ((k : Int) + 1) = (k : Int) + 1 := wk1 _ a0 kB
        clear hI hend hne h32 stepT hNF
        go_wp2
        exact ⟨⟨k + 1, F, N, ad, cp, ad2, cp2, by go_num, rfl, rfl, rfl, by omega, HN⟩, by simp [intOf]; omega⟩
    · have a1 : ¬ (k : Int) ≤ (Z : Int) := by omega
      have a2 : decide ((k : Int) ≤ (Z : Int)) = false := by simpa using a1
      obtain ⟨pre, S, h1, h2, h3, h4, h5⟩ := hI.out
      have ez := HZ.out.1
      have ez2 := HZ.out.2.1
      have hpre := h2.fin (by omega)
      have hNb : N ≤ 1048577 := by omega
      have BG := hide (big10 N hNb)
      have R3 := hide (h5.nu (Kp.alloc wr (.cells #[.int .i64 (Z : Int)] 3) Nu))
      have hlen : ((S.length : Nat) : Int) ≤ 5864062014634 := by omega
      have HG := hide (And.intro hpre (And.intro h3 (And.intro h4 hlen)))
      have HLL : Hid ((Z : Int) = (l.length : Int)) := hide (by omega)
      clear hI h1 h2 h3 h4 h5 hpre hNb hlen ez ez2 hFk hNF
      go_wp2_with (at_builtin; refine Rg.unhid ?_)
      refine wpList_append_own_at _ rfl (.tmp 61) (.tmp 64) 115 rfl B 3 i3 (.int .i64 0) 1 8 Tryd.underlying115 hi3 hy0 hy1 hy2 rfl (by decide) (.slice ad2 N cp2) N (begs pre) rfl R3.out.o2 ⟨wr.heap.size, 0, none⟩ 1 1 [.int .i64 (Z : Int)] rfl rfl (cell_one_new wr _ _) (by simp [Value.oneCell']) BG.out.1 BG.out.2.2 R3.out.hi ?_
      intro v4 w4 ho4 hg4 hnil4 hat4
      obtain ⟨ad4, cp4, ev⟩ := Rg.own_slice ho4
      subst ev
      have R4 := hide (R3.out.push2 ho4 hg4)
      have FA := Rg.fault_refA w4 (.slice ad N cp) S (Rg.sgs_of_own (B := B) (by rw [HG.out.2.2.1]; exact R4.out.o1) HG.out.2.1.sgb) HG.out.2.2.2
      clear ho4 hg4 hnil4 hat4 R3
      go_wp2_with fail
      refine FA.mono ?_; rintro e w5 ⟨p, f, rfl, hF, k5⟩
      have R5 := hide (R4.out.nu k5)
      have HF := hide hF
      clear FA R4 k5 hF
      by_cases hf : f = 0
      · subst hf
        have JO := Rg.join_any w5 (.slice ad N cp) S (Rg.sgs_of_own (B := B) (by rw [HG.out.2.2.1]; exact R5.out.o1) HG.out.2.1.sgb) HG.out.2.2.2
        go_wp2_with fail
        refine JO.mono ?_; rintro e w6 ⟨u6, rfl, ho6, k6⟩
        obtain ⟨ad6, cp6, hu6⟩ := Rg.own_slice ho6
        obtain ⟨NL, hNL⟩ : ∃ NL, (lays [] S).length = NL := ⟨_, rfl⟩
        have HO := hide (And.intro ho6 hNL)
        rw [hNL] at hu6
        subst hu6
        have R6 := hide (R5.out.nu k6)
        obtain ⟨c0, c1⟩ := Rg.cell2' R6.out.rs
        have g0 := Rg.free3 R6.out.rs 0
        have g1 := Rg.free3 R6.out.rs 1
        have hw5 : Hid (w.heap.size ≤ w5.heap.size) := hide R5.out.kp.size
        have hb5 : Hid (w.heap.size < w5.heap.size) := hide (Rg.blk_lt R5.out.rs)
        clear JO ho6 hNL k6 R5
        by_cases hgt : (NL : Int) > lim
        · have HR := hide (R6.out.res (.int .i64 0) (.slice none 0 0))
          obtain ⟨y0, y1⟩ := Rg.cell2' HR.out.1
          go_wp2
          refine bodyPost_ret (v := .tuple #[.agg #[.int .i64 0, .slice none 0 0], .int .i64 (Z : Int), .int .i64 61]) (by simp [results, Tryd.results33, go_sem, y0, y1]) rfl ?_
          refine ⟨0, _, _, _, rfl, .inr (.inr ⟨HLM.out.1, S, p, 0, by rw [← HG.out.1]; exact HG.out.2.1, HF.out, .inr (.inl ⟨rfl, ?_, rfl, HLL.out⟩)⟩), ⟨_, _, _, rfl⟩, HR.out.2⟩
          rw [HO.out.2]
          exact hgt
        · have HR := hide (R6.out.res (.int .i64 lim) (.slice ad6 NL cp6))
          obtain ⟨y0, y1⟩ := Rg.cell2' HR.out.1
          go_wp2
          refine bodyPost_ret (v := .tuple #[.agg #[.int .i64 lim, .slice ad6 NL cp6], .int .i64 0, .int .i64 0]) (by simp [results, Tryd.results33, go_sem, y0, y1]) rfl ?_
          refine ⟨lim, _, _, _, rfl, .inr (.inr ⟨HLM.out.1, S, p, 0, by rw [← HG.out.1]; exact HG.out.2.1, HF.out, .inr (.inr ⟨rfl, ?_, rfl, rfl, rfl, ?_⟩)⟩), ⟨_, _, _, rfl⟩, HR.out.2⟩
          · rw [HO.out.2]
            omega
          · have kk : Kp (fun q => q = w.heap.size) w6 ((w6.setCell ⟨w.heap.size, 0, none⟩ (.int .i64 lim)).setCell ⟨w.heap.size, 1, none⟩ (.slice ad6 NL cp6)) := ((Kp.setCell w6 ⟨w.heap.size, 0, none⟩ _).trans (Kp.setCell _ ⟨w.heap.size, 1, none⟩ _) (fun _ _ h => h))
            have ho := HO.out.1
            have hb := hb5.out
            refine Rg.own_base (base := w5.heap.size) ?_ hw5.out
            exact Rg.own_keep ho (fun q hq => kk.block q (Rg.own_lt ho hq) (fun e => by have e2 : q = w.heap.size := e; have := (ho.lt q hq).1; omega))
      · have hfb : (f != 0) = true := by simpa using hf
        obtain ⟨q, hq, hqc⟩ : ∃ q : Nat, p = (q : Int) ∧ ((q < S.length ∧ (begs pre ++ [.int .i64 (Z : Int)])[q]? = some (.int .i64 (off ((spl 32 l).take q) : Int))) ∨ (q = S.length ∧ (begs pre ++ [.int .i64 (Z : Int)])[q]? = some (.int .i64 (Z : Int)))) := by
          have hlb : (begs pre).length = S.length := by rw [begs_len]; exact (HG.out.2.1.len).symm
          have hlt : ∀ q, q < S.length → (begs pre ++ [.int .i64 (Z : Int)])[q]? = some (.int .i64 (off ((spl 32 l).take q) : Int)) := fun q hq => by
            rw [List.getElem?_append_left (by omega), begs_at (by rw [← HG.out.2.1.len]; exact hq), HG.out.1]
          rcases HF.out with ⟨q, t, _, h2, _, _, h5⟩ | ⟨_, _, _, h5⟩ | ⟨h0, _⟩
          · exact ⟨q, h5, .inl ⟨(List.getElem?_eq_some_iff.1 h2).1, hlt q (List.getElem?_eq_some_iff.1 h2).1⟩⟩
          · exact ⟨S.length, h5, .inr ⟨rfl, by rw [List.getElem?_append_right (by omega), hlb]; simp⟩⟩
          · exact absurd h0 hf
        subst hq
        obtain ⟨A, hA1, hA2⟩ : ∃ A : Int, (begs pre ++ [.int .i64 (Z : Int)])[q]? = some (.int .i64 A) ∧ ((q < S.length ∧ A = (off ((spl 32 l).take q) : Int)) ∨ (q = S.length ∧ A = (l.length : Int))) := by
          rcases hqc with ⟨h, h2⟩ | ⟨h, h2⟩
          · exact ⟨_, h2, .inl ⟨h, rfl⟩⟩
          · exact ⟨_, h2, .inr ⟨h, HLL.out⟩⟩
        obtain ⟨gb, eg, cg, hBg⟩ := own_at R5.out.o2 hA1
        subst eg
        have hqN : (q : Int) < (N : Int) + 1 := by
          have := HG.out.2.2.1
          rcases hA2 with ⟨h, _⟩ | ⟨h, _⟩ <;> omega
        have hq0 : (0 : Int) ≤ (q : Int) := by omega
        have cg' : w5.drew.cell? ⟨gb, q, none⟩ = some (.int .i64 A) := cg
        obtain ⟨c0, c1⟩ := Rg.cell2' R5.out.rs
        have g0 := Rg.free3 R5.out.rs 0
        have g1 := Rg.free3 R5.out.rs 1
        have R6 := hide (R5.out.nu ((Kp.refl Nu w5).drew))
        obtain ⟨d0, d1⟩ := Rg.cell2' R6.out.rs
        have i0' := Rg.free3 R6.out.rs 0
        have i1' := Rg.free3 R6.out.rs 1
        have HA2 := hide hA2
        have hne : gb ≠ w.heap.size := by have := R5.out.lo; omega
        have kk : Kp (fun q => q = w.heap.size) w5 ((w5.setCell ⟨w.heap.size, 0, none⟩ (.int .i64 0)).setCell ⟨w.heap.size, 1, none⟩ (.slice none 0 0)) := ((Kp.setCell w5 ⟨w.heap.size, 0, none⟩ _).trans (Kp.setCell _ ⟨w.heap.size, 1, none⟩ _) (fun _ _ h => h))
        have cg2 : ((w5.setCell ⟨w.heap.size, 0, none⟩ (.int .i64 0)).setCell ⟨w.heap.size, 1, none⟩ (.slice none 0 0)).cell? ⟨gb, q, none⟩ = some (.int .i64 A) := by
          have hb := kk.block gb (World.block_lt_of_cell? w5 _ cg) hne
          unfold World.cell? at cg ⊢
          rw [hb]
          exact cg
        have HR5 := hide (R5.out.res (.int .i64 0) (.slice none 0 0))
        obtain ⟨z0, z1⟩ := Rg.cell2' HR5.out.1
        have HR := hide (R6.out.res (.int .i64 0) (.slice none 0 0))
        obtain ⟨y0, y1⟩ := Rg.cell2' HR.out.1
        have HFF := hide hf
        clear hqc hA1 hA2 hBg R5 hf
        go_wp2_with fail
        go_region
        all_goals go_wp2
        all_goals refine bodyPost_ret (v := .tuple #[.agg #[.int .i64 0, .slice none 0 0], .int .i64 A, .int .i64 f]) (by first | (simp [results, Tryd.results33, go_sem, y0, y1]; done) | (simp [results, Tryd.results33, go_sem, z0, z1]; done)) rfl ?_
        all_goals exact ⟨0, _, _, _, rfl, .inr (.inr ⟨HLM.out.1, S, (q : Int), f, by rw [← HG.out.1]; exact HG.out.2.1, HF.out, .inl ⟨HFF.out, rfl, q, rfl, HA2.out⟩⟩), ⟨_, _, _, rfl⟩, by first | exact HR.out.2 | exact HR5.out.2 | exact HR5.out.2.drew⟩
end Go.Proofs.YtffcnonhhfhlhaaDoor.Ws
