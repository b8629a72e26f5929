import Derived.Test.YtbhdhoeaogbfbaaEnD
namespace Go.Proofs.Ytbhdhoeaogbfbaa.Xo
open Go.RowKit
set_option linter.unusedVariables false
section
variable {B eb pb : Nat} {w w' : World} {me qn wn : Int} {ps : List Pr}
theorem cell1 {w : World} {b : Nat} {x : Value} {ty : TypeId} (h : w.heap[b]? = some (.cells #[x] ty (0, 0))) : w.cell? ⟨b, 0, none⟩ = some x := by simp [World.cell?, h]
theorem lt_m {k h : Nat} (x : Int) (hx : x = ((k + 1 : Nat) : Int)) (hm : k < h) : h - (intOf (.int .i64 x)).toNat < h - (intOf (.int .i64 (k : Int))).toNat := by
  subst hx
  show h - (k + 1) < h - k
  omega
set_option maxHeartbeats 1000000 in
theorem load_any (sb : Nat) (us : List Int) (n : Nat) (hl : us.length = n) (hs : Row w sb 66 (us.map PrA)) (h0 : us[0]? = some 0) (hn : 1 ≤ n) (hn16 : n ≤ 16) (wn : Int) (h1 : 1 ≤ wn) (h2 : wn ≤ 16) (hu : ∀ a ∈ us, 0 ≤ a ∧ a ≤ 18446744073709551615) :
    Calls Try.prog 30 #[.int .u8 0, .int .i64 (n : Int), .int .i64 16, .int .i64 wn, .agg #[.slice (some ⟨sb, 0, none⟩) n n]] w fun e w' => ∃ eb pb L, e = .returned (.tuple #[.pointer (some ⟨eb, 0, none⟩), .int .i64 0]) ∧ En w.heap.size w' eb pb 0 16 wn L ∧ L.length = n ∧ Kp Nu w w' ∧ ∀ (i : Nat) (p : Pr), L[i]? = some p → us[i]? = some p.sent ∧ p.qs = [] ∧ p.mask = 0 ∧ p.dlv = 0 := by
  have NW := fun W => new_any n hn hn16 wn h1 h2 W
  have IZ := isZero_any none none 0 0
  have hnn : ((n : Int) != (n : Int)) = false := by simp
  have hnp : (0 : Int) < (n : Int) := by omega
  have HL := hide hl
  have HU := hide hu
  have HN := hide (And.intro hn (And.intro hn16 (And.intro h1 h2)))
  have H0 := hide h0
  have HR := hide (fun W (k : Kp Nu w W) => hs.keep (k.block _ (blk_lt hs) (fun h => h)))
  have C0 := fun W (k : Kp Nu w W) => (hs.keep (k.block _ (blk_lt hs) (fun h => h))).at (k := 0) (p := PrA 0) (by rw [List.getElem?_map, h0]; rfl)
  simp only [Nat.zero_mul, Nat.zero_add, PrA] at C0
  clear hl hu hn hn16 h1 h2 h0 hs
  go_enter Try.func30, Try.ntmps30
  go_wp2_with (first | (go_at_call 22; refine (NW _).mono ?_; rintro e w1 ⟨eb, pb, rfl, hb1, hb2, hbk, hrow, hk1⟩; have kk1 := hide ((Kp.alloc w _ Nu).andNu hk1); have xb1 : w1.cell? ⟨w.heap.size, 0, none⟩ = some (.slice (some ⟨sb, 0, none⟩) n n) := cell1 (new_at w _ hk1); obtain ⟨q0, q1, q2, q3, q4, q5⟩ := C0 w1 kk1.out; have HK1 := hide hk1; have HB := hide hbk; have HW := hide hrow; clear hk1 hbk hrow) | (go_at_call 62; refine (IZ _).mono ?_; rintro e w2 ⟨rfl, hk2⟩; have xb2 : w2.cell? ⟨w.heap.size, 0, none⟩ = some (.slice (some ⟨sb, 0, none⟩) n n) := cell1 (new_at w _ (HK1.out.andNu hk2))))
  have HS0 : Hid (Ld w.heap.size w w2 eb pb wn us [] n 0) := by
    have k2 := kk1.out.andNu hk2
    refine ⟨k2, Nat.le_trans (by simp) hb1, Nat.le_trans (by simp) hb2, (hk2.block _ (blk_lt HB.out) (fun h => h)).trans HB.out, ?_, rfl, fun i p hi => by simp at hi, fun i j p r hi => by simp at hi⟩
    simpa using HW.out.keep (hk2.block _ (blk_lt HW.out) (fun h => h))
  clear xb1 xb2 q0 q1 q2 q3 q4 q5 hb1 hb2 HB HW HK1 kk1 NW IZ C0 hk2 H0
  go_loopw [45] (fun i wr => ∃ (k : Nat) (L : List Pr), k ≤ n ∧ i = .int .i64 (k : Int) ∧ Hid (Ld w.heap.size w wr eb pb wn us L n k)) (fun i _ => n - (intOf i).toNat)
  case atStart => exact ⟨0, [], by omega, rfl, HS0⟩
  case round =>
    obtain ⟨k, L, hkn, rfl, HI⟩ := hrel
    by_cases hlt : k < n
    · have hk2 : k < us.length := by rw [HL.out]; exact hlt
      obtain ⟨a, ha⟩ : ∃ a, us[k]? = some a := ⟨us[k], List.getElem?_eq_getElem hk2⟩
      have hI := HI.out
      obtain ⟨q0, q1, q2, q3, q4, q5⟩ := (HR.out wr hI.kp).at (k := k) (p := PrA a) (by rw [List.getElem?_map, ha]; rfl)
      simp only [PrA] at q0 q1 q2 q3 q4 q5
      have hltI : (k : Int) < (n : Int) := by omega
      have hk0 : (0 : Int) ≤ (k : Int) := by omega
      have hbx := heap_alloc_new wr (.cells #[.int .u64 a, .int .u64 a, .slice none 0 0, .int .u64 0, .int .u64 0, .slice none 0 0] 66)
      have c3 : (wr.alloc (.cells #[.int .u64 a, .int .u64 a, .slice none 0 0, .int .u64 0, .int .u64 0, .slice none 0 0] 66)).cell? ⟨eb, 3, none⟩ = some (.slice (some ⟨pb, 0, none⟩) n n) := by
        rw [World.cell?_of_block (Below.heap_alloc wr _ eb (blk_lt hI.blk))]
        simp [World.cell?, hI.blk]
      have rowb : Row (wr.alloc (.cells #[.int .u64 a, .int .u64 a, .slice none 0 0, .int .u64 0, .int .u64 0, .slice none 0 0] 66)) pb 123 (L ++ List.replicate (n - k) Pr0) := hI.row.keep (Below.heap_alloc _ _ _ (blk_lt hI.row))
      have hL0 : (L ++ List.replicate (n - k) Pr0)[k]? = some Pr0 := by
        have := hI.len
        rw [List.getElem?_append_right (by omega), List.getElem?_replicate, if_pos (by omega)]
      have hpb : pb < wr.heap.size := blk_lt hI.row
      have HS : ∀ W, Kp (fun i => i = pb) (wr.alloc (.cells #[.int .u64 a, .int .u64 a, .slice none 0 0, .int .u64 0, .int .u64 0, .slice none 0 0] 66)) W → W.cell? ⟨wr.heap.size, 0, none⟩ = some (.int .u64 a) ∧ W.cell? ⟨wr.heap.size, 1, none⟩ = some (.int .u64 a) ∧ W.cell? ⟨wr.heap.size, 2, none⟩ = some (.slice none 0 0) ∧ W.cell? ⟨wr.heap.size, 3, none⟩ = some (.int .u64 0) ∧ W.cell? ⟨wr.heap.size, 4, none⟩ = some (.int .u64 0) ∧ W.cell? ⟨wr.heap.size, 5, none⟩ = some (.slice none 0 0) := fun W kw => by
        have hE := cell6 hbx
        have hc : ∀ o, W.cell? ⟨wr.heap.size, o, none⟩ = (wr.alloc (.cells #[.int .u64 a, .int .u64 a, .slice none 0 0, .int .u64 0, .int .u64 0, .slice none 0 0] 66)).cell? ⟨wr.heap.size, o, none⟩ := fun o => World.cell?_of_block (kw.block _ (by simp) (fun e => by have e : wr.heap.size = pb := e; omega))
        exact ⟨(hc _).trans hE.1, (hc _).trans hE.2.1, (hc _).trans hE.2.2.1, (hc _).trans hE.2.2.2.1, (hc _).trans hE.2.2.2.2.1, (hc _).trans hE.2.2.2.2.2⟩
      have LO : ∀ W, Kp Nu (wr.alloc (.cells #[.int .u64 a, .int .u64 a, .slice none 0 0, .int .u64 0, .int .u64 0, .slice none 0 0] 66)) W → Calls Try.prog 63 #[.pointer (some ⟨pb, k * 6, none⟩), .agg #[.int .u64 a, .int .u64 a, .slice none 0 0, .int .u64 0, .int .u64 0, .slice none 0 0], .int .i64 16] W fun e w' => e = .returned (.bool true) ∧ Kp (fun i => i = pb) (wr.alloc (.cells #[.int .u64 a, .int .u64 a, .slice none 0 0, .int .u64 0, .int .u64 0, .slice none 0 0] 66)) w' ∧ Hid (∃ g, wr.heap.size ≤ g ∧ w'.heap[g]? = some (.cells #[] 45 (0, 0)) ∧ Row w' pb 123 ((L ++ List.replicate (n - k) Pr0).set k ⟨a, a, .slice (some ⟨g, 0, none⟩) 0 0, [], 0, 0, .slice none 0 0⟩) ∧ Kp (fun i => i = pb) wr w') := fun W kw =>
        (loadOut (rowb.keep (kw.block _ (blk_lt rowb) (fun h => h))) k Pr0 hL0 a (by rw [Int.sub_self]; rfl)).mono (by
          rintro e w' ⟨rfl, g, hg, hb, hr, kp⟩
          have kk := (kw.mono (T := fun i => i = pb) (fun _ _ e => e.elim)).trans kp (fun _ _ e => e)
          have hsz := kw.size
          simp at hsz
          exact ⟨rfl, kk, g, by omega, hb, hr, (Kp.alloc wr _ (fun i => i = pb)).trans kk (fun _ _ e => e)⟩)
      have LI : ∀ (ps : List Pr) (p : Pr) (W : World), Row W pb 123 ps → ps[k]? = some p → Calls Try.prog 64 #[.pointer (some ⟨pb, k * 6 + 4, none⟩), .agg #[.int .u64 a, .int .u64 a, .slice none 0 0, .int .u64 0, .int .u64 0, .slice none 0 0], .int .i64 wn] W fun e w' => e = .returned (.bool true) ∧ ∃ g, Row w' pb 123 (ps.set k ⟨p.sent, p.acked, p.q, p.qs, p.mask, 0, .slice (some ⟨g, 0, none⟩) 0 0⟩) ∧ Kp (fun i => i = pb) W w' := fun ps p W hr hp => loadIn hr k p hp a wn
      have HX := hide (And.intro hL0 hpb)
      have hwk : Hid (wrap64 ((k : Int) + 1) = ((k + 1 : Nat) : Int)) := by have := HN.out.2.1; exact wrap_small (by omega) (by omega)
      clear hI hbx rowb hL0 hpb
      go_wp2_with fail
      go_region_held3 (fun W => W.cell? ⟨wr.heap.size, 0, none⟩ = some (.int .u64 a) ∧ W.cell? ⟨wr.heap.size, 1, none⟩ = some (.int .u64 a) ∧ W.cell? ⟨wr.heap.size, 2, none⟩ = some (.slice none 0 0) ∧ W.cell? ⟨wr.heap.size, 3, none⟩ = some (.int .u64 0) ∧ W.cell? ⟨wr.heap.size, 4, none⟩ = some (.int .u64 0) ∧ W.cell? ⟨wr.heap.size, 5, none⟩ = some (.slice none 0 0)) (first | (refine HS _ ?_; repeat (first | assumption | exact Kp.refl _ _ | apply Kp.drew))) (first | (go_at_call 63; refine (LO _ ?_).mono ?_; (repeat (first | assumption | exact Kp.refl _ _ | apply Kp.drew)); rintro e w5 ⟨rfl, hk5, H5⟩; obtain ⟨g, hg5, hb5, hr5, hkr5⟩ := H5.out; have H5b := hide (And.intro hg5 (And.intro hb5 (And.intro hr5 hkr5))); have L64 := LI _ _ w5 hr5 (set_self HX.out.1 _); clear H5 hg5 hb5 hr5 hkr5) | (go_at_call 64; refine L64.mono ?_; rintro e w6 ⟨rfl, g6, hr6, hk6⟩; have hk6b := hk5.trans hk6 (fun _ _ e => e); have HR6 := hide (And.intro hr6 hk6); clear hr6))
      obtain ⟨h51, h52, h53, h54⟩ := H5b.out
      obtain ⟨h61, h62⟩ := HR6.out
      rw [List.set_set] at h61
      have HZ := hide (Ld.step HI.out rfl hlt ha h51 h52 h54 h62 ⟨_, _, rfl⟩ h61)
      clear h51 h52 h53 h54 h61 h62 H5b HR6 L64 LI LO HS
      go_wp2
      exact ⟨⟨k + 1, _, hlt, by rw [hwk.out], HZ⟩, lt_m _ hwk.out hlt⟩
    · obtain rfl : k = n := by omega
      clear hlt
      go_wp2
      obtain ⟨n1, n2, n3, n4⟩ := HN.out
      refine bodyPost_ret (v := .tuple #[.pointer (some ⟨eb, 0, none⟩), .int .i64 0]) (by simp [results, Try.results30, go_sem]) rfl ?_
      exact ⟨eb, pb, L, rfl, Ld.en HI.out n1 n2 n3 n4 HU.out, HI.out.len, HI.out.kp, fun i p hi => by
        obtain ⟨h1, h2, h3, h4, h5, _⟩ := HI.out.pw i p hi
        exact ⟨h1, h3, h4, h5⟩⟩
end
end Go.Proofs.Ytbhdhoeaogbfbaa.Xo
