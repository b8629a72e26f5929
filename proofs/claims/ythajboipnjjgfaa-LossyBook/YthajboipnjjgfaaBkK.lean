import Derived.Test.YthajboipnjjgfaaBkJ
namespace Go.Proofs.Ythajboipnjjgfaa.Ly
open Go.RowKit Go.Maps
set_option linter.unusedVariables false

theorem cut_bare {L M : List Gm} (hs : M.map bare = L.map bare) {p : Nat} {g : Gm} (hg : L[p]? = some g) : (sift (drP [(p : Int)]) 0 M).map bare = (cut L p).map bare := by
  have hp : p < L.length := (List.getElem?_eq_some_iff.1 hg).1
  have e : L[p] = g := by rw [List.getElem?_eq_getElem hp] at hg; simpa using hg
  have e1 : L = L.take p ++ g :: L.drop (p + 1) := by
    rw [← e, ← List.drop_eq_getElem_cons hp, List.take_append_drop]
  have h1 := sift_bare (p := drP [(p : Int)]) (q := fun k => decide ((k : Int) ∈ [(p : Int)])) (fun _ _ => rfl) M L 0 hs
  rw [h1]
  have h2 := sift_one (L.take p) (L.drop (p + 1)) g p (by rw [List.length_take]; omega)
  rw [← e1] at h2
  rw [h2]
  rfl
set_option maxRecDepth 100000 in
set_option maxHeartbeats 1000000 in
theorem booked_3take {w0 w : World} {b bm nb : Nat} {room : Int} {D : DataW Unit} {v : Value} {c : Ct} {L : List Gm} {u : Value} {M : List Gm} (h : Bs w0 w b bm nb room D v c L u M) (hc : Fax c) (A E : Int) (p : Nat) (atv dv : Value) (xs ys : List Int) (hr : RdI w0 atv xs) (hd : Rd w0 dv ys) {g : Gm} (hg : L[p]? = some g) (hbar : bar D g.f g.t = false) :
    Calls Try.prog 36 #[.pointer (some ⟨b, 0, none⟩), u, .agg #[.int .i64 3, .int .i64 A, .int .i64 E, .int .i64 (p : Int), .bool false, atv, dv], .int .i64 room] w fun e w' => ∃ u', e = .returned (.tuple #[u', .bool true]) ∧ ∃ M' v' c' L', PlR 3 c L c' L' ∧ Bs w0 w' b bm nb room D v' c' L' u' M' := by
  have mixed : Try.prog.follows .mixedOrders = true := by kernel_rfl
  have K1 := (Kp.alloc w (.cells #[.int .i64 3, .int .i64 A, .int .i64 E, .int .i64 (p : Int), .bool false, atv, dv] 55) Nu).drew
  have DE := fun W (k : Kp Nu w W) => deliver_take (h.nu k).nt p hg hbar hc.far
  have HH := hide h
  have hp : p < L.length := (List.getElem?_eq_some_iff.1 hg).1
  have hp2 : (p : Int) < (M.length : Int) := by rw [h.len]; omega
  have hp0 : (0 : Int) ≤ (p : Int) := by omega
  have hp1 : (p : Int) ≥ 0 := hp0
  obtain ⟨m, hm⟩ : ∃ m, M[p]? = some m := ⟨_, List.getElem?_eq_getElem (by rw [h.len]; exact hp)⟩
  obtain ⟨m1, m2, m3⟩ : m.f = g.f ∧ m.t = g.t ∧ m.ys = g.ys := by
    have e1 : (M.map bare)[p]? = (L.map bare)[p]? := by rw [h.same]
    rw [List.getElem?_map, List.getElem?_map, hg, hm] at e1
    simpa [bare] using e1
  obtain ⟨md1, md2, md3, md4, md5, md6⟩ := h.dat m (List.mem_of_getElem? hm)
  obtain ⟨ad, cap, hu⟩ := own_slice h.own
  obtain ⟨ad1, c1, e1⟩ := hr.slice
  obtain ⟨ad2, c2, e2⟩ := hd.slice
  obtain ⟨NM, hNM⟩ : ∃ N, M.length = N := ⟨_, rfl⟩
  rw [hNM] at hu hp2
  subst hu e1 e2
  generalize xs.length = Nx at *
  generalize ys.length = Ny at *
  have HP := hide (And.intro hp (cut_bare h.same hg))
  clear hr hd h hg hbar hp
  have DE1 := DE _ K1
  go_enter Try.func36, Try.ntmps36
  go_wp2_with fail
  go_region
  go_wp2_with fail
  refine DE1.mono ?_
  rintro e w2 ⟨a2, n2, cp2, rfl, hO, v', hN, hF⟩
  obtain ⟨ho, hkk⟩ := (HH.out.nu K1).fr hN hF
  have hbx : w2.heap[w.heap.size]? = some (.cells #[.int .i64 3, .int .i64 A, .int .i64 E, .int .i64 (p : Int), .bool false, .slice ad1 Nx c1, .slice ad2 Ny c2] 55 (0, 0)) :=
    (hF.kp.block _ (by simp [World.drew]) (fun hf => by have := HH.out.nt.lt _ hf; omega)).trans (heap_alloc_new w _)
  have hb3 := (Below.heap_alloc w2 (.cells #[.int .u8 g.f, .int .u8 g.t, .slice (some a2) n2 cp2] 38) _ (blk_lt hbx)).trans hbx
  have hB3 : Nt w0.heap.size (w2.alloc (.cells #[.int .u8 g.f, .int .u8 g.t, .slice (some a2) n2 cp2] 38)) b bm nb room D v' { c with d := c.d + 1 } (cut L p) ∧ Kp Nu w0 (w2.alloc (.cells #[.int .u8 g.f, .int .u8 g.t, .slice (some a2) n2 cp2] 38)) ∧ (w2.alloc (.cells #[.int .u8 g.f, .int .u8 g.t, .slice (some a2) n2 cp2] 38)).ownsRow w0.heap.size 94 3 (.slice ad NM cap) M.length (cells M) := ⟨hN.nu (Kp.alloc _ _ Nu), hkk.andNu (Kp.alloc _ _ Nu), ho.alloc _⟩
  have hO3 : Out (w2.alloc (.cells #[.int .u8 g.f, .int .u8 g.t, .slice (some a2) n2 cp2] 38)) _ g a2 n2 cp2 := hO.kp (Kp.alloc w2 _ Nu) (fun _ _ _ h => h)
  obtain ⟨hd0, hd1, hd2⟩ := cell3 (heap_alloc_new w2 (.cells #[.int .u8 g.f, .int .u8 g.t, .slice (some a2) n2 cp2] 38))
  obtain ⟨W3, hW3⟩ : ∃ W, w2.alloc (.cells #[.int .u8 g.f, .int .u8 g.t, .slice (some a2) n2 cp2] 38) = W := ⟨_, rfl⟩
  rw [hW3] at hb3 hB3 hO3 hd0 hd1 hd2
  have y3 : W3.cell? ⟨w.heap.size, 3, none⟩ = some (.int .i64 (p : Int)) := by simp only [World.cell?, hb3]; rfl
  have y4 : W3.cell? ⟨w.heap.size, 4, none⟩ = some (.bool false) := by simp only [World.cell?, hb3]; rfl
  obtain ⟨r, cr, hv, z0, z1, z2⟩ := row_at94 hB3.2.2 hm
  rw [hNM] at hv
  simp only [Value.slice.injEq] at hv
  obtain ⟨hv1, hv2, hv3⟩ := hv
  clear hv2 hv3
  subst hv1
  obtain ⟨am, cm, em⟩ := md1.slice
  have IS : ∀ W, Kp Nu W3 W → Calls Try.prog 54 #[.agg #[.int .u8 m.f, .int .u8 m.t, m.d], .agg #[.int .u8 g.f, .int .u8 g.t, .slice (some a2) n2 cp2]] W fun e w' => e = .returned (.bool true) ∧ Kp Nu W3 w' := fun W k => by
    rw [← m1, ← m2]
    refine (is_true W m.f m.t md3 md4 md5 md6 m.d _ m.ys ((md1.nu hB3.2.1).nu k) ?_ md2).mono (fun e w' hx => ⟨hx.1, k.andNu hx.2⟩)
    rw [m3]
    exact row_rd hO3 k
  have HSS : ∀ W, Kp Nu W3 W → (W.cell? ⟨r, p * 3, none⟩ = some (.int .u8 m.f) ∧ W.cell? ⟨r, p * 3 + 1, none⟩ = some (.int .u8 m.t) ∧ W.cell? ⟨r, p * 3 + 2, none⟩ = some m.d) ∧ (W.cell? ⟨w2.heap.size, 0, none⟩ = some (.int .u8 g.f) ∧ W.cell? ⟨w2.heap.size, 1, none⟩ = some (.int .u8 g.t) ∧ W.cell? ⟨w2.heap.size, 2, none⟩ = some (.slice (some a2) n2 cp2)) ∧ W.cell? ⟨w.heap.size, 3, none⟩ = some (.int .i64 (p : Int)) ∧ W.cell? ⟨w.heap.size, 4, none⟩ = some (.bool false) := fun W k =>
    ⟨⟨cell_below z0 (Nat.le_refl _) k.toBelow, cell_below z1 (Nat.le_refl _) k.toBelow, cell_below z2 (Nat.le_refl _) k.toBelow⟩, ⟨cell_below hd0 (Nat.le_refl _) k.toBelow, cell_below hd1 (Nat.le_refl _) k.toBelow, cell_below hd2 (Nat.le_refl _) k.toBelow⟩, cell_below y3 (Nat.le_refl _) k.toBelow, cell_below y4 (Nat.le_refl _) k.toBelow⟩
  rw [em] at IS HSS
  generalize m.ys.length = Nm at *
  have nm := fun W => num_any 0 W
  have HB3 := hide hB3
  clear DE DE1 hO hN hF ho hkk hbx hb3 hO3 hd0 hd1 hd2 z0 z1 z2 hB3 K1 md1 md2 md3 md4 md5 md6 m1 m2 m3 hm hNM em y4
  go_wp2_with fail
  try rw [hW3]
  refine (nm _).mono ?_; rintro e w3 ⟨rfl, hw3⟩
  obtain rfl := hw3.symm
  clear hW3 hw3
  go_wp2_with fail
  go_region_held (fun W => (W.cell? ⟨r, p * 3, none⟩ = some (.int .u8 m.f) ∧ W.cell? ⟨r, p * 3 + 1, none⟩ = some (.int .u8 m.t) ∧ W.cell? ⟨r, p * 3 + 2, none⟩ = some (.slice am Nm cm)) ∧ (W.cell? ⟨w2.heap.size, 0, none⟩ = some (.int .u8 g.f) ∧ W.cell? ⟨w2.heap.size, 1, none⟩ = some (.int .u8 g.t) ∧ W.cell? ⟨w2.heap.size, 2, none⟩ = some (.slice (some a2) n2 cp2)) ∧ W.cell? ⟨w.heap.size, 3, none⟩ = some (.int .i64 (p : Int)) ∧ W.cell? ⟨w.heap.size, 4, none⟩ = some (.bool false)) (first | (refine HSS _ ?_; repeat (first | assumption | exact Kp.refl _ _ | apply Kp.andAlloc | apply Kp.drew)))
    (first | (go_at_call 54; refine (IS _ ?_).mono ?_; (repeat (first | assumption | exact Kp.refl _ _ | apply Kp.andAlloc | apply Kp.drew)); rintro e w9 ⟨rfl, hk9⟩))
  have y5 := (HSS _ hk9).2.2.2
  have ST := strike (u := .slice (some ⟨r, 0, none⟩) NM cap) (M := M) (HB3.out.1.nu hk9) (HB3.out.2.1.andNu hk9) (own_keep HB3.out.2.2 (fun g hg => hk9.block g (own_lt HB3.out.2.2 hg) (fun h => h))) HH.out.dat (by have := HH.out.len4; omega) (p : Int)
  have HK9 := hide (And.intro (HB3.out.1.nu hk9) (HB3.out.2.1.andNu hk9))
  clear HSS IS HB3 hk9
  go_wp2_with fail
  refine ST.mono ?_
  rintro e w10 ⟨u', rfl, ho, hk⟩
  obtain ⟨a9, c9, e9⟩ := own_slice ho
  have HF : Hid (∃ M' v' c' L', PlR 3 c L c' L' ∧ Bs w0 w10 b bm nb room D v' c' L' u' M') :=
    ⟨_, v', _, _, .took p HP.out.1, ⟨HK9.out.1.nu hk, HK9.out.2.andNu hk, ho, fun g hg => HH.out.dat g (sift_mem _ _ _ _ hg), HP.out.2⟩⟩
  rw [e9] at HF
  subst e9
  clear ST ho hk HK9
  go_wp2
  go_ret2
  exact ⟨_, rfl, HF.out⟩
end Go.Proofs.Ythajboipnjjgfaa.Ly
