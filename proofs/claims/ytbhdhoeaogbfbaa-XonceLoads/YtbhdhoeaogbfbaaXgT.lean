import Derived.Test.YtbhdhoeaogbfbaaXgS
namespace Go.Proofs.Ytbhdhoeaogbfbaa.Xo
open Go.RowKit
set_option linter.unusedVariables false
set_option linter.unusedSimpArgs false
/-- numbers that memory has room for, of a state's answer -/
def BdA (a : Ab) : Prop := a.q.length ≤ 5864062014634 ∧ (∀ y ∈ a.q, y.length ≤ 140737488351232) ∧ a.e.length ≤ 4398046510976 ∧ (∀ f ∈ a.e, f.2.length ≤ 140737488351232) ∧ 0 ≤ a.sent ∧ a.sent ≤ 18446744073709551615 ∧ 0 ≤ a.acked ∧ a.acked ≤ 18446744073709551615 ∧ 0 ≤ a.mask ∧ a.mask ≤ 18446744073709551615 ∧ 0 ≤ a.dlv ∧ a.dlv ≤ 18446744073709551615 ∧ ∀ f ∈ a.e, 0 ≤ f.1 ∧ f.1 ≤ 18446744073709551615
theorem bd_ab (x : Px) : Bd x ↔ BdA x.ab := by
  unfold Bd BdA Px.ab
  simp only [List.length_map, List.forall_mem_map, fse]
theorem bd_list {xs I : List Px} (h : xs.map Px.ab = I.map Px.ab) (hI : ∀ x ∈ I, Bd x) : ∀ x ∈ xs, Bd x := fun x hx => by
  have h1 : x.ab ∈ I.map Px.ab := by rw [← h]; exact List.mem_map_of_mem hx
  obtain ⟨y, hy, e⟩ := List.mem_map.1 h1
  rw [bd_ab, ← e, ← bd_ab]
  exact hI y hy
theorem bd_zero : Bd Px0 := by
  unfold Bd Px0 Pr0
  simp
theorem fit_zero : Fit Px0 := by
  unfold Fit Px0 Pr0
  simp
theorem suI_bd {hosts : Int} {ld : Bool} {I : List Px} (hb : ∀ x ∈ I, Bd x) : ∀ x ∈ suI hosts ld I, Bd x := fun x hx => by
  cases ld with
  | true => exact hb x hx
  | false =>
    have hx : x ∈ List.replicate hosts.toNat Px0 := hx
    rw [(List.mem_replicate.1 hx).2]; exact bd_zero
theorem suI_fit {ks hosts qn wn : Int} {ld : Bool} {I : List Px} (h : suOk ks hosts qn wn ld I) : ∀ x ∈ suI hosts ld I, Fit x := fun x hx => by
  cases ld with
  | true => exact fit_ld h x hx
  | false =>
    have hx : x ∈ List.replicate hosts.toNat Px0 := hx
    rw [(List.mem_replicate.1 hx).2]; exact fit_zero
theorem suI_len {ks hosts qn wn : Int} {ld : Bool} {I : List Px} (h : suOk ks hosts qn wn ld I) : 0 < (suI hosts ld I).length ∧ (suI hosts ld I).length ≤ 16 := by
  cases ld with
  | true =>
    obtain ⟨⟨h1, h2, _⟩, h3, _⟩ := h
    show 0 < I.length ∧ I.length ≤ 16
    omega
  | false =>
    obtain ⟨h1, h2, _⟩ := h
    show 0 < (List.replicate hosts.toNat Px0).length ∧ (List.replicate hosts.toNat Px0).length ≤ 16
    rw [List.length_replicate]
    omega
theorem ab_len {xs I : List Px} (h : xs.map Px.ab = I.map Px.ab) : xs.length = I.length := by
  have := congrArg List.length h; simpa using this
theorem Pm.in1 {w : World} {G : Nat → Prop} {x : Px} (h : Pm w G x) : In1 w x := ⟨h.lq, h.le⟩
/-- a state that is told, of the numbers A -/
def Tda (w : World) (u : Value) (A : List Ab) : Prop := ∃ X, Wi w u X ∧ X.map Px.ab = A
theorem Tda.nu {w w' : World} {u : Value} {A : List Ab} (h : Tda w u A) (k : Kp Nu w w') : Tda w' u A := by
  obtain ⟨X, h1, h2⟩ := h
  exact ⟨X, h1.nu k, h2⟩
theorem tell20 {w W : World} {eb : Nat} {sf qn wn : Int} {xs J : List Px} (h : YesP w W eb sf qn wn xs) (hab : xs.map Px.ab = J.map Px.ab) (hf : ∀ x ∈ J, Fit x) (hl : 0 < J.length ∧ J.length ≤ 16) (V : World) (k : Kp Nu W V) :
    Calls Try.prog 20 #[.pointer (some ⟨eb, 0, none⟩)] V fun e w' => ∃ u, e = .returned (.agg #[u]) ∧ Kp Nu V w' ∧ Hid (Tda w' u (J.map Px.ab)) := by
  obtain ⟨pb, h1, h2, h3⟩ := h.ex
  have hlx := ab_len hab
  refine (state20 V eb pb sf qn wn xs ((k.block _ (blk_lt h2) (fun h => h)).trans h2) (h3.keep (k.block _ (blk_lt h3) (fun h => h))) (fun x hx => (h.pm x hx).in1.nu k) (fit_list hab hf) (by omega) (by omega)).mono ?_
  rintro e w' ⟨u, ys, rfl, g1, g2, g3⟩
  exact ⟨u, rfl, g3, ⟨ys, g1.wi, g2.trans hab⟩⟩
theorem row_wi {w : World} {b : Nat} {ty : TypeId} {xs : List Px} {G : Nat → Prop} {c : Nat} (h : Row w b ty (xs.map Px.p)) (hp : ∀ x ∈ xs, Pm w G x) : Wi w (.slice (some ⟨b, 0, none⟩) xs.length c) xs := by
  refine ⟨_, _, rfl, fun i x hx => ⟨b, 0, rfl, fun j hj => ?_, (hp x (List.mem_of_getElem? hx)).in1⟩⟩
  have hp2 : (xs.map Px.p)[i]? = some x.p := by rw [List.getElem?_map, hx]; rfl
  have e1 := flat_at (xs.map Px.p) i x.p hp2 j hj
  have hb : w.heap[b]? = some (.cells (flat (xs.map Px.p)).toArray ty (0, 0)) := h
  rw [Nat.zero_add]
  simpa [World.cell?, hb] using e1
theorem tell21 {w W : World} {db : Nat} {sf qn wn : Int} {xs J : List Px} (h : YesE w W db sf qn wn xs) (hab : xs.map Px.ab = J.map Px.ab) (hb : ∀ x ∈ J, Bd x) (hl : J.length ≤ 16) (V : World) (k : Kp Nu W V) :
    Calls Try.prog 21 #[.pointer (some ⟨db, 0, none⟩)] V fun e w' => ∃ u, e = .returned (.agg #[u]) ∧ Kp Nu V w' ∧ Hid (Tda w' u (J.map Px.ab)) := by
  obtain ⟨pb, h1, h2, h3⟩ := h.ex
  have hlx := ab_len hab
  refine (state21 V db true sf qn wn _ xs ((k.block _ (blk_lt h2) (fun h => h)).trans h2) ((row_wi h3 h.pm).nu k) (bd_list hab hb) (by omega)).mono ?_
  rintro e w' ⟨u, ys, rfl, g1, g2, g3⟩
  exact ⟨u, rfl, g3, ⟨ys, g1.wi, g2.trans hab⟩⟩
theorem wi_nil {w : World} : Wi w (.slice none 0 0) [] := ⟨none, 0, rfl, fun i x hx => by simp at hx⟩
theorem tell21_no {w W : World} {db : Nat} (h : NoE w W db) (V : World) (k : Kp Nu W V) :
    Calls Try.prog 21 #[.pointer (some ⟨db, 0, none⟩)] V fun e w' => ∃ u, e = .returned (.agg #[u]) ∧ Kp Nu V w' ∧ Hid (Tda w' u []) := by
  refine (state21 V db false 0 0 0 _ [] ((k.block _ (blk_lt h.2.1) (fun h => h)).trans h.2.1) wi_nil (fun x hx => by cases hx) (by simp)).mono ?_
  rintro e w' ⟨u, ys, rfl, g1, g2, g3⟩
  exact ⟨u, rfl, g3, ⟨ys, g1.wi, g2⟩⟩
theorem tell20_no (V : World) : Calls Try.prog 20 #[.pointer none] V fun e w' => ∃ u, e = .returned (.agg #[u]) ∧ Kp Nu V w' ∧ Hid (Tda w' u []) := by
  refine (state20_nil V).mono ?_
  rintro e w' ⟨rfl, h⟩
  exact ⟨_, rfl, h, ⟨[], wi_nil, rfl⟩⟩
theorem same19 {A : List Ab} (hA : ∀ a ∈ A, BdA a) (hl : A.length ≤ 1759218604441) (W : World) (u v : Value) (hu : Tda W u A) (hv : Tda W v A) : Calls Try.prog 19 #[.agg #[u], .agg #[v]] W fun e w' => e = .returned (.bool true) ∧ Kp Nu W w' := by
  obtain ⟨X, h1, h2⟩ := hu
  obtain ⟨Y, h3, h4⟩ := hv
  refine states_gen W u v X Y h1 h3 (h2.trans h4.symm) (fun x hx => ?_) ?_
  · rw [bd_ab]
    apply hA
    rw [← h2]; exact List.mem_map_of_mem hx
  · have := congrArg List.length h2
    rw [List.length_map] at this
    omega
def EvP : Bool → Option Addr → Prop
  | true, ev => ∃ a, ev = some a
  | false, ev => ev = none
/-- the document's end is made -/
def Mt (V : World) (db : Nat) (b : Bool) (A : List Ab) : Prop := V.cell? ⟨db, 0, none⟩ = some (.bool b) ∧ Calls Try.prog 21 #[.pointer (some ⟨db, 0, none⟩)] V fun e w' => ∃ u, e = .returned (.agg #[u]) ∧ Kp Nu V w' ∧ Hid (Tda w' u A)
def Md (V : World) (ev : Option Addr) (A : List Ab) : Prop := Calls Try.prog 20 #[.pointer ev] V fun e w' => ∃ u, e = .returned (.agg #[u]) ∧ Kp Nu V w' ∧ Hid (Tda w' u A)
set_option maxRecDepth 100000 in
set_option maxHeartbeats 4000000 in
theorem loads_core (w : World) (self hosts qn wn : Int) (ld : Bool) (aI : Option Addr) (n cI : Nat) (A B : List Ab) (b : Bool) (cd : Int) (hA : ∀ a ∈ A, BdA a) (hAl : A.length ≤ 1759218604441) (hB : ∀ a ∈ B, BdA a) (hBl : B.length ≤ 1759218604441) (hT : Tda w (.slice aI n cI) B)
    (MT : ∀ W, Kp Nu w W → Calls Try.prog 15 #[Su self hosts qn wn ld (.slice aI n cI)] W fun e w' => ∃ db, e = .returned (.tuple #[.pointer (some ⟨db, 0, none⟩), .int .i64 cd]) ∧ Kp Nu W w' ∧ Hid (∀ V, Kp Nu w' V → Mt V db b A))
    (MD : ∀ W, Kp Nu w W → Calls Try.prog 17 #[Su self hosts qn wn ld (.slice aI n cI)] W fun e w' => ∃ ev, e = .returned (.tuple #[.pointer ev, .int .i64 cd]) ∧ EvP b ev ∧ Kp Nu W w' ∧ Hid (∀ V, Kp Nu w' V → Md V ev A))
    (TW : ∀ W, Kp Nu w W → Calls Try.prog 16 #[.agg #[.slice aI n cI]] W fun e w' => ∃ au nu cu, e = .returned (.agg #[.slice au nu cu]) ∧ Kp Nu W w' ∧ Hid (Tda w' (.slice au nu cu) B)) :
    Calls Try.prog 3 #[Su self hosts qn wn ld (.slice aI n cI)] w fun e w' => e = .returned (.bool true) ∧ Kp Nu w w' := by
  have kA : Kp Nu w (w.alloc (.cells #[.int .i64 self, .int .i64 hosts, .int .i64 qn, .int .i64 wn, .bool ld, .slice aI n cI] 26)) := (Kp.refl _ w).andAlloc _
  have hbx := heap_alloc_new w (.cells #[.int .i64 self, .int .i64 hosts, .int .i64 qn, .int .i64 wn, .bool ld, .slice aI n cI] 26)
  have C5 : ∀ V, Kp Nu (w.alloc (.cells #[.int .i64 self, .int .i64 hosts, .int .i64 qn, .int .i64 wn, .bool ld, .slice aI n cI] 26)) V → ∀ j u, (#[Value.int .i64 self, .int .i64 hosts, .int .i64 qn, .int .i64 wn, .bool ld, .slice aI n cI] : Array Value)[j]? = some u → V.cell? ⟨w.heap.size, j, none⟩ = some u := fun V k j u hu => by
    have h1 := (k.block _ (blk_lt hbx) (fun h => h)).trans hbx
    rw [World.cell?, h1]
    simpa using hu
  have S1 := fun W u1 u2 => same19 (A := A) hA hAl W u1 u2
  have S2 := fun W u1 u2 => same19 (A := B) hB hBl W u1 u2
  have HT := hide hT
  clear hA hAl hB hBl hT hbx
  obtain ⟨w0, hw0⟩ : ∃ w0, w0 = w.alloc (.cells #[.int .i64 self, .int .i64 hosts, .int .i64 qn, .int .i64 wn, .bool ld, .slice aI n cI] 26) := ⟨_, rfl⟩
  have b0 := C5 _ (Kp.refl _ _) 0 _ rfl
  have b1 := C5 _ (Kp.refl _ _) 1 _ rfl
  have b2 := C5 _ (Kp.refl _ _) 2 _ rfl
  have b3 := C5 _ (Kp.refl _ _) 3 _ rfl
  have b4 := C5 _ (Kp.refl _ _) 4 _ rfl
  have b5 := C5 _ (Kp.refl _ _) 5 _ rfl
  have HKA := hide kA
  have C5 := hide C5
  have MA : ∀ W, Kp Nu (w.alloc (.cells #[.int .i64 self, .int .i64 hosts, .int .i64 qn, .int .i64 wn, .bool ld, .slice aI n cI] 26)) W → Calls Try.prog 15 #[Su self hosts qn wn ld (.slice aI n cI)] W fun e w' => ∃ db, e = .returned (.tuple #[.pointer (some ⟨db, 0, none⟩), .int .i64 cd]) ∧ Kp Nu W w' ∧ Hid (∀ V, Kp Nu w' V → Mt V db b A) := fun W k => MT W (kA.andNu k)
  clear MT
  cases b
  all_goals
    go_enter Try.func3, Try.ntmps3
    go_wp2_with (first | (go_at_call 15; refine (MA _ (Kp.refl _ _)).mono ?_; rintro e w1 ⟨db, rfl, k1, HM⟩; have K1 := hide (HKA.out.andNu k1); clear MA; have c5 := C5.out _ k1 5 _ rfl; have k1 := hide k1; clear b0 b1 b2 b3 b4 b5) | (go_at_call 16; refine (TW _ K1.out).mono ?_; rintro e w2 ⟨au, nu, cu, rfl, k2, HU⟩; clear TW; have B5 := hide (heap_alloc_new w2 (.cells #[.slice au nu cu] 24)); have d0 := C5.out _ ((k1.out.andNu k2).andAlloc (.cells #[.slice au nu cu] 24)) 0 _ rfl; have d1 := C5.out _ ((k1.out.andNu k2).andAlloc (.cells #[.slice au nu cu] 24)) 1 _ rfl; have d2 := C5.out _ ((k1.out.andNu k2).andAlloc (.cells #[.slice au nu cu] 24)) 2 _ rfl; have d3 := C5.out _ ((k1.out.andNu k2).andAlloc (.cells #[.slice au nu cu] 24)) 3 _ rfl; have d4 := C5.out _ ((k1.out.andNu k2).andAlloc (.cells #[.slice au nu cu] 24)) 4 _ rfl; have d5 := C5.out _ ((k1.out.andNu k2).andAlloc (.cells #[.slice au nu cu] 24)) 5 _ rfl; have k2 := hide k2) | (go_at_call 17; refine (MD _ ((K1.out.andNu k2.out).andAlloc _)).mono ?_; rintro e w3 ⟨ev, rfl, hev, k3, HD⟩; (first | obtain ⟨aev, rfl⟩ := hev | obtain rfl := hev); clear MD d0 d1 d2 d3 d4 d5; have g0 := (HM.out _ ((k2.out.andAlloc _).andNu k3)).1; have k3 := hide k3) | (go_at_call 18; refine (num_any _ _).mono ?_; rintro e w31 ⟨rfl, h31⟩; obtain rfl := h31.symm) | (go_at_call 20; refine (HD.out _ (Kp.refl _ _)).mono ?_; rintro e w4 ⟨u1, rfl, k4, H4⟩; clear HD; have k4 := hide k4) | (go_at_call 21; refine (HM.out _ (((k2.out.andAlloc _).andNu k3.out).andNu k4.out)).2.mono ?_; rintro e w5 ⟨u2, rfl, k5, H5⟩; clear HM; have k5 := hide k5) | (go_at_call 19; refine (S1 _ _ _ (H4.out.nu k5.out) H5.out).mono ?_; rintro e w6 ⟨rfl, k6⟩; clear S1; have k6 := hide k6; have e1 := C5.out _ (((k1.out.andNu k2.out).andAlloc _).andNu (((k3.out.andNu k4.out).andNu k5.out).andNu k6.out)) 5 _ rfl; have e2 := cellAt (v := .slice au nu cu) (((((k3.out.andNu k4.out).andNu k5.out).andNu k6.out).block _ (blk_lt B5.out) (fun h => h)).trans B5.out) 0 rfl) | (go_at_call 19; refine (S2 _ _ _ (HT.out.nu (((K1.out.andNu k2.out).andAlloc _).andNu (((k3.out.andNu k4.out).andNu k5.out).andNu k6.out))) (HU.out.nu (((Kp.refl Nu _).andAlloc _).andNu (((k3.out.andNu k4.out).andNu k5.out).andNu k6.out)))).mono ?_; rintro e w7 ⟨rfl, k7⟩; clear S2))
    refine bodyPost_ret (v := .bool true) (by simp [results, Try.results3, go_sem]) rfl ?_
    exact ⟨rfl, ((K1.out.andNu k2.out).andAlloc _).andNu ((((k3.out.andNu k4.out).andNu k5.out).andNu k6.out).andNu k7)⟩
set_option maxHeartbeats 1000000 in
/-- XonceLoads -/
theorem loads_walk (w : World) (self hosts qn wn : Int) (ks : Nat) (hks : IntKind.u8.wrap self = (ks : Int)) (hk8 : ks < 256) (ld : Bool) (v : Value) (I : List Px) (hI : Wi w v I) (hb : ∀ x ∈ I, Bd x) (hl : I.length ≤ 1759218604441) :
    Calls Try.prog 3 #[Su self hosts qn wn ld v] w fun e w' => e = .returned (.bool true) ∧ Kp Nu w w' := by
  obtain ⟨aI, cI, eI⟩ := hI.slice
  have TW : ∀ W, Kp Nu w W → Calls Try.prog 16 #[.agg #[v]] W fun e w' => ∃ au nu cu, e = .returned (.agg #[.slice au nu cu]) ∧ Kp Nu W w' ∧ Hid (Tda w' (.slice au nu cu) (I.map Px.ab)) := fun W k => by
    refine (twins16 W v I (hI.nu k) hb hl).mono ?_
    rintro e w' ⟨u, xs, rfl, h1, h2, h3⟩
    obtain ⟨au, cu, rfl⟩ := own_slice h1.1
    exact ⟨_, _, _, rfl, h3, xs, h1.wi, h2⟩
  have MT := fun W (k : Kp Nu w W) => meant15 W self hosts qn wn ks hks hk8 ld v I (hI.nu k) hb hl
  have MD := fun W (k : Kp Nu w W) => made17 W self hosts qn wn ks hks hk8 ld v I (hI.nu k) hb hl
  have hB : ∀ a ∈ I.map Px.ab, BdA a := fun a ha => by
    obtain ⟨x, hx, rfl⟩ := List.mem_map.1 ha
    exact (bd_ab x).1 (hb x hx)
  have hBl : (I.map Px.ab).length ≤ 1759218604441 := by rw [List.length_map]; exact hl
  have hT : Tda w v (I.map Px.ab) := ⟨I, hI, rfl⟩
  by_cases hok : suOk (ks : Int) hosts qn wn ld I
  · have h16 := suI_len hok
    have hbd := suI_bd (hosts := hosts) (ld := ld) hb
    rw [eI] at hT MT MD TW ⊢
    refine loads_core w self hosts qn wn ld aI _ cI ((suI hosts ld I).map Px.ab) (I.map Px.ab) true 0 (fun a ha => ?_) (by rw [List.length_map]; omega) hB hBl hT (fun W k => (MT W k).mono ?_) (fun W k => (MD W k).mono ?_) TW
    · obtain ⟨x, hx, rfl⟩ := List.mem_map.1 ha
      exact (bd_ab x).1 (hbd x hx)
    · rintro e w' ⟨db, ⟨h1, rfl, xs, h2, h3⟩ | ⟨h1, h2, h3⟩⟩
      · refine ⟨db, rfl, ((Kp.refl Nu W).andAlloc _).andNu h3.kp, fun V kV => ⟨?_, tell21 h3 h2 hbd h16.2 V kV⟩⟩
        obtain ⟨pb, g1, g2, g3⟩ := h3.ex
        exact cellAt (v := .bool true) ((kV.block _ (blk_lt g2) (fun h => h)).trans g2) 0 rfl
      · exact absurd hok h1
    · rintro e w' (⟨h1, eb, xs, rfl, h2, h3⟩ | ⟨h1, h2, h3⟩)
      · exact ⟨_, rfl, ⟨_, rfl⟩, ((Kp.refl Nu W).andAlloc _).andNu h3.kp, fun V kV => tell20 h3 h2 (suI_fit hok) h16 V kV⟩
      · exact absurd hok h1
  · rw [eI] at hT MT MD TW ⊢
    refine loads_core w self hosts qn wn ld aI _ cI [] (I.map Px.ab) false (suE (ks : Int) hosts qn wn) (fun a ha => by cases ha) (by simp) hB hBl hT (fun W k => (MT W k).mono ?_) (fun W k => (MD W k).mono ?_) TW
    · rintro e w' ⟨db, ⟨h1, h2⟩ | ⟨h1, rfl, h3⟩⟩
      · exact absurd h1 hok
      · exact ⟨db, rfl, ((Kp.refl Nu W).andAlloc _).andNu h3.2.2, fun V kV => ⟨cellAt (v := .bool false) ((kV.block _ (blk_lt h3.2.1) (fun h => h)).trans h3.2.1) 0 rfl, tell21_no h3 V kV⟩⟩
    · rintro e w' (⟨h1, h2⟩ | ⟨h1, rfl, h3⟩)
      · exact absurd h1 hok
      · exact ⟨_, rfl, rfl, ((Kp.refl Nu W).andAlloc _).andNu h3, fun V kV => tell20_no V⟩
end Go.Proofs.Ytbhdhoeaogbfbaa.Xo
