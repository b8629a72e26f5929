import Derived.Test.YtffcnonhhfhlhaaDoorTxD
import Derived.Test.YtffcnonhhfhlhaaDoorItB
namespace Go.Proofs.YtffcnonhhfhlhaaDoor.Rg
open Go.RowKit Go.Shelf Go.Sort
open Go.Proofs.YtffcnonhhfhlhaaDoor.It
attribute [local go_sem] Oper.semAt_some
set_option linter.unusedVariables false

set_option maxRecDepth 100000 in
set_option maxHeartbeats 1000000 in
theorem text_any {B b : Nat} {w : World} {lim : Int} {v : Value} {L : List Sg} (h : Tb B w b lim v L) (hp : PowB w.heap.size w) :
    Calls Tryd.prog 24 #[.pointer (some ⟨b, 0, none⟩)] w fun e w' => e = .returned (.string ⟨(txt L).toArray⟩) ∧ Kp Nu w w' := by
  obtain ⟨i0, hi0, hz0, hz1, hz2⟩ := info_parts info5
  have hsgb := h.sgb
  have hM : L.length ≤ 8192 := by have := h.len; have := h.lim1; omega
  have htl : (txt L).length ≤ 516096 := by have := txt_len L hsgb; omega
  have KA := Kp.alloc w (.cells #[.slice none 0 0] 100) Nu
  have b0 : (w.alloc (.cells #[.slice none 0 0] 100)).heap[w.heap.size]? = some (.cells #[.slice none 0 0] 100 (0, 0)) := heap_alloc_new w _
  have AL := all_any (h.nu KA)
  have HT := hide h
  refine (callsIn_wide (n := 4)).1 ?_
  refine callsIn_of_wp_marks Tryd.func24 rfl trivial ?_ rfl
  simp only [Tryd.ntmps24, List.size_toArray, List.length_cons, List.length_nil, Nat.reduceAdd, Nat.reduceSub, Array.replicate_succ, Array.replicate_zero, List.push_toArray, List.append_toArray, List.nil_append, List.cons_append]
  clear h
  gi_wp2_with fail
  refine ⟨trivial, (callsIn_wide.2 AL).mono ?_⟩
  rintro e w1 ⟨Bn, r, cap, rfl, hbn, hr, hk1⟩
  have KW := KA.andNu hk1
  obtain ⟨cur, hcur, hrow⟩ := (HT.out.nu KW).cur hr
  have hrw : r < w.heap.size := own_lt HT.out.own hr
  have b1 := (hk1.block _ (blk_lt b0) (fun h => h)).trans b0
  have SQ : SeqQ Tryd.prog 73 #[.pointer (some ⟨Bn, 0, none⟩)] (fun x : Sg => #[enc x]) (fun k _ => k = r) (fun ys => ys = L) (fun pre => pre <+: L) L.length w1 :=
    from_q Bn r 0 cap L cur hM hrow _ hbn hcur
  have L0 : Tx w w1 w.heap.size (txt []) := ⟨_, b1, ⟨rfl, .inl ⟨rfl, rfl⟩⟩⟩
  have hb0 : Below w.heap.size w w1 := KW.toBelow
  have hs0 : w.heap.size ≤ w1.heap.size := hb0.size
  clear AL hbn hcur hrow b0 b1 KA KW hk1
  gi_wp2_with fail
  refine range_q (gf := 73) rfl (enters_of Tryd.func73 (by kernel_rfl) rfl) SQ (Below.refl _ _) (fun _ => rfl)
    (fun pre V => Tx w V w.heap.size (txt pre) ∧ Below w.heap.size w V) (fun _ _ _ => False)
    (OwnFrom.and (Tx.own _ txt) (ownFrom_below (Nat.le_refl _) hs0)) (fun _ _ _ _ _ hs _ _ => hs) ⟨L0, hb0⟩
    (fun x a' V => ∃ Bx, V.heap[Bx]? = some (.cells #[.int .u64 x.lo, .int .u64 x.hi, .int .u8 x.h] 26 (0, 0)) ∧ a' = { tmps := #[.pointer (some ⟨b, 0, none⟩), undef, .string ⟨#[]⟩, .pointer (some ⟨w.heap.size, 0, none⟩), .pointer (some ⟨Bx, 0, none⟩), .pointer (some ⟨b, 0, none⟩), .func (.func 73) #[] #[.pointer (some ⟨Bn, 0, none⟩)], enc x, undef, undef, undef, undef, undef, undef, undef, undef, undef, undef], defers := [] })
    (fun x a' _ X Z row hs hg hr => by
      obtain ⟨Bx, h1, h2⟩ := hs
      exact ⟨Bx, own_cells (β := Unit) w1.heap.size Bx _ _ _ () X Z row h1 hg hr, h2⟩)
    ?assign1 ?body1 ?done1 (fun _ _ _ _ _ _ h _ => h.elim)
  case assign1 =>
    rintro l' pre x V K ⟨hLp, hB1⟩ hK
    simp only [enc]
    have kV := Kp.alloc V (.cells #[.int .u64 x.lo, .int .u64 x.hi, .int .u8 x.h] 26) Nu
    have HZ := hide (And.intro (hLp.nu kV) kV)
    clear hLp kV
    gi_wp2
    obtain ⟨f1, kV⟩ := HZ.out
    exact hK _ _ (kf_nu _ kV) (kc_nu kV) ⟨f1, hB1.alloc hB1.size _⟩ ⟨V.heap.size, heap_alloc_new V _, rfl⟩
  case body1 =>
    rintro l' pre x a' V hl' hq ⟨⟨u, b1, b2⟩, hB1⟩ ⟨Bx, hX, rfl⟩ hpre
    have hmem : ∀ s ∈ pre ++ [x], SgB s := fun s hs => hsgb s (hpre.subset hs)
    have hx := hmem x (by simp)
    have hlen2 : (pre ++ [x]).length ≤ L.length := hpre.length_le
    have htp := txt_len pre (fun s hs => hmem s (by simp [hs]))
    have hN : (txt pre).length ≤ 516096 := by simp at hlen2; omega
    have hrV := hB1.block r hrw
    have HFIN : Hid (∀ V4, Tz w V V4 w.heap.size (txt (pre ++ [x])) → V.heap.size ≤ V4.heap.size → KeepsFrom w1.heap.size V V4 ∧ Kc (fun k _ => k = r) V V4 ∧ Tx w V4 w.heap.size (txt (pre ++ [x])) ∧ Below w.heap.size w V4) := fun V4 h hsz =>
      ⟨h.kf b1 hsz, fun k c t m hk e => by
        have hk2 : k = r := hk
        subst hk2
        exact (h.bel.block _ hrw).trans (hrV.symm.trans e), ⟨h.box⟩, h.bel⟩
    have PV : PowB w.heap.size V := hp.on hB1
    have hVs := hB1.size
    have c1 := cell1 b1
    rcases List.eq_nil_or_concat pre with e | ⟨A', t, e⟩
    · subst e
      have AW := addWord_any w.heap.size V u (txt []) x hx b2 hVs (by omega) PV
      have hT1 : txt ([] ++ [x]) = txt [] ++ wrd x := by simp [txt]
      obtain ⟨a0, a1, a2⟩ := cell3 hX
      obtain ⟨adu, cpu, hu⟩ := own_slice b2
      have HST : Hid (∀ V1 u1, Ap w.heap.size V V1 u1 (txt [] ++ wrd x) → V1.heap[w.heap.size]? = some (.cells #[u] 100 (0, 0)) ∧ (V1.setCell ⟨w.heap.size, 0, none⟩ u1).heap[w.heap.size]? = some (.cells #[u1] 100 (0, 0)) ∧ (V1.setCell ⟨w.heap.size, 0, none⟩ u1).ownsRow w.heap.size 5 1 u1 (txt [] ++ wrd x).length (Lib.byteCells (txt [] ++ wrd x)) ∧ Tz w V (V1.setCell ⟨w.heap.size, 0, none⟩ u1) w.heap.size (txt [] ++ wrd x)) := fun V1 u1 A => Tz.of_ap b1 (Nat.le_refl _) hB1 A
      have hu0 : (txt ([] : List Sg)).length = 0 := rfl
      rw [hu0] at hu
      unfold enc at AW
      subst hu
      clear b1 b2 hX hl' hq SQ L0 hpre hlen2 htp hN hmem hu0 hrV PV
      gi_wp2_with fail
      refine ⟨trivial, (CallsIn.inRound l' (callsIn_wide.2 AW)).mono ?_⟩
      rintro e V1 ⟨u1, rfl, A1⟩
      obtain ⟨q1, q2, q3, q4⟩ := HST.out V1 u1 A1
      obtain ⟨ad1, cp1, hu1⟩ := own_slice A1.own
      have HQ := hide (And.intro q4 A1.bel.size)
      have d1 := cell1 q1
      have d2 := free3 q1 0
      generalize (txt [] ++ wrd x).length = N1 at hu1
      subst hu1
      clear q1 q2 q3 q4 A1 AW HST
      gi_wp2
      rw [← hT1] at HQ
      have hsz : V.heap.size ≤ (V1.setCell ⟨w.heap.size, 0, none⟩ (.slice ad1 N1 cp1)).heap.size := by simp; exact HQ.out.2
      exact HFIN.out _ HQ.out.1 hsz
    · have hne : pre ≠ [] := by rw [e, List.concat_eq_append]; simp
      have hT1 : txt (pre ++ [x]) = (txt pre ++ [32]) ++ wrd x := by rw [txt_snoc pre x hne]; simp
      have hpos := txt_pos (fun s hs => hmem s (by simp [hs])) hne
      have HX := hide hX
      have hBne : Bx ≠ w.heap.size := fun e => by rw [e] at hX; rw [hX] at b1; cases b1
      obtain ⟨adu, cpu, hu⟩ := own_slice b2
      have HR := hide b2
      have HST : Hid (∀ V1 u1, Ap w.heap.size V V1 u1 (txt pre ++ [32]) → V1.heap[w.heap.size]? = some (.cells #[u] 100 (0, 0)) ∧ (V1.setCell ⟨w.heap.size, 0, none⟩ u1).heap[w.heap.size]? = some (.cells #[u1] 100 (0, 0)) ∧ (V1.setCell ⟨w.heap.size, 0, none⟩ u1).ownsRow w.heap.size 5 1 u1 (txt pre ++ [32]).length (Lib.byteCells (txt pre ++ [32])) ∧ Tz w V (V1.setCell ⟨w.heap.size, 0, none⟩ u1) w.heap.size (txt pre ++ [32])) := fun V1 u1 A => Tz.of_ap b1 (Nat.le_refl _) hB1 A
      have HAP : Hid (∀ V1 v1, V1.ownsRow w.heap.size 5 1 v1 ((txt pre).length + 1) (Lib.byteCells (txt pre) ++ [.int .u8 32]) → V.grownBy V1 u.ownBlock → Ap w.heap.size V V1 v1 (txt pre ++ [32])) := fun V1 v1 ho hg =>
        ⟨by rw [List.length_append, byteCells_append]; exact ho, (Below.refl _ V).grown hg hVs (fun k hk => (b2.lt k hk).1), (Lib.OthersKept.refl _ _ _).grown hg (Lib.ownsRow_kind b2)⟩
      generalize hNN : (txt pre).length = N at hu hpos hN htp HR HAP
      have HNN := hide hNN
      have hposI : (0 : Int) < (N : Int) := by omega
      subst hu
      clear b1 b2 hX hl' hq SQ L0 hpre hlen2 htp hmem hrV PV hNN e hne
      gi_wp2_with (first
        | (gi_at_builtin; refine wpListIn_append_str _ rfl _ _ 100 9 rfl w.heap.size 5 i0 Tryd.underlying100 Tryd.underlying9 hi0 hz0 hz1 hz2 _ N (Lib.byteCells (txt pre)) rfl HR.out ⟨#[32]⟩ rfl (by show N + 1 ≤ maxLen; unfold maxLen; omega) (by show N + 1 ≤ _; omega) hVs ?_; intro v1 V1 hown1 hg1; have A1 := HAP.out V1 v1 hown1 hg1; obtain ⟨ad1, cp1, hu1⟩ := own_slice A1.own; have HA1 := hide A1; have d1 := cell1 (HST.out V1 v1 A1).1; have d2 := free3 (HST.out V1 v1 A1).1 0; have hl1 : (txt pre ++ [32]).length = N + 1 := (by rw [List.length_append, HNN.out]; rfl); rw [hl1] at hu1; subst hu1; obtain ⟨y0, y1, y2⟩ := cell3 ((HST.out V1 _ A1).2.2.2.oth _ _ HX.out (fun e => hBne (by cases e; rfl)) (by intro c fz e; cases e)); obtain ⟨y3, y4, y5⟩ := cell3 (A1.oth _ _ HX.out (by simp) (by intro c fz e; cases e)); clear hown1 hg1 A1 hl1)
        | fail)
      obtain ⟨_, q2, q3, q4⟩ := HST.out V1 _ HA1.out
      have AW := addWord_any w.heap.size _ _ (txt pre ++ [32]) x hx q3 q4.bel.size (by rw [List.length_append, HNN.out]; simp; omega) (hp.on q4.bel)
      unfold enc at AW
      refine ⟨trivial, (CallsIn.inRound l' (callsIn_wide.2 AW)).mono ?_⟩
      rintro e V3 ⟨u3, rfl, A3⟩
      obtain ⟨p1, p2, p3, p4⟩ := Tz.of_ap q2 (Nat.le_refl _) q4.bel A3
      obtain ⟨ad3, cp3, hu3⟩ := own_slice A3.own
      have hz1' : V.heap.size ≤ V3.heap.size := by
        have h1 := HA1.out.bel.size
        have h2 := A3.bel.size
        simp at h2; omega
      have HQ := hide (And.intro (q4.trans p4) hz1')
      have f1 := cell1 p1
      have f2 := free3 p1 0
      generalize (txt pre ++ [32] ++ wrd x).length = N3 at hu3
      subst hu3
      clear p1 p2 p3 p4 q2 q3 q4 A3 AW y0 y1 y2 y3 y4 y5 d1 d2
      gi_wp2
      rw [← hT1] at HQ
      have hsz : V.heap.size ≤ (V3.setCell ⟨w.heap.size, 0, none⟩ (.slice ad3 N3 cp3)).heap.size := by simp; exact HQ.out.2
      exact HFIN.out _ HQ.out.1 hsz
  case done1 =>
    rintro D ys V hD rfl ⟨⟨u, b1, b2⟩, hB1⟩ hK
    have c1 := cell1 b1
    have hD2 : D ≠ w.heap.size := by intro e; rw [e, b1] at hK; cases hK
    obtain ⟨adu, cpu, hu⟩ := own_slice b2
    have cv := conv_row b2
    have HF : Hid (Kp Nu w (V.putObj D (.deferred none))) := Kp.of_below (hB1.trans (belowK_b (w := w) (Nat.le_refl _) V D _ _ (Nat.le_trans hs0 hD) hK rfl rfl))
    generalize (txt ys).length = N at hu
    subst hu
    clear b1 b2 SQ L0
    gi_wp2
    refine ⟨by simp, .inl ⟨_, _, rfl, run_takeDeferred hK, ?_⟩⟩
    refine ⟨.string ⟨(txt ys).toArray⟩, ?_, rfl, HF.out⟩
    simp [results, Tryd.results24, go_sem]
end Go.Proofs.YtffcnonhhfhlhaaDoor.Rg
