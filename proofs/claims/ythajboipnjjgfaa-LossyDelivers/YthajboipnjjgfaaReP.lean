import Derived.Test.YthajboipnjjgfaaReO
namespace Go.Proofs.Ythajboipnjjgfaa.Ly
open Go.RowKit Go.Maps
set_option linter.unusedVariables false
set_option linter.unusedSimpArgs false

/-- blocks of cells stand, but for those of the types T -/
structure Ob (T : TypeId → Prop) (w w' : World) : Prop where
  size : w.heap.size ≤ w'.heap.size
  cells : ∀ (i : Nat) (cur : Array Value) (ty : TypeId), w.heap[i]? = some (.cells cur ty (0, 0)) → ¬ T ty → w'.heap[i]? = w.heap[i]?
def Tp : TypeId → Prop := fun t => t = 77 ∨ t = 38
def Tq : TypeId → Prop := fun t => t = 117 ∨ t = 120
theorem Ob.of_nu {T : TypeId → Prop} {w w' : World} (k : Kp Nu w w') : Ob T w w' := ⟨k.size, fun i cur ty hi _ => k.block i (blk_lt hi) (fun h => h)⟩
theorem Ob.trans {T : TypeId → Prop} {a b c : World} (h : Ob T a b) (k : Ob T b c) : Ob T a c :=
  ⟨Nat.le_trans h.size k.size, fun i cur ty hi ht => by rw [k.cells i cur ty ((h.cells i cur ty hi ht).trans hi) ht, h.cells i cur ty hi ht]⟩

section
variable {B b bm nb p : Nat} {w w' : World} {there : Bool} {room : Int} {D : DataW Unit} {bs : Nat → Bool} {v v2 v' v2' : Value} {c c' : Ct} {L : List Gm} {H : List Hg}
theorem Ob.of_fr (h : Nt B w b bm nb room D v c L) (f : Fr b bm v w w' v') : Ob Tp w w' := ⟨f.kp.size, fun i cur ty hi ht => f.kp.block i (blk_lt hi) (by
  rintro (rfl | rfl | e)
  · rw [h.blk] at hi; cases hi; exact ht (.inl rfl)
  · obtain ⟨es, clock, hb⟩ := map_obj h.map
    rw [hb] at hi; cases hi
  · obtain ⟨cur', hc⟩ := own_obj h.own e.symm
    rw [hc] at hi; cases hi; exact ht (.inr rfl))⟩
theorem Ob.of_fq (h : Rn B w p there room bs v2 c H) (f : Fq p v2 w w' v2') : Ob Tq w w' := ⟨f.kp.size, fun i cur ty hi ht => f.kp.block i (blk_lt hi) (by
  rintro (rfl | e)
  · obtain ⟨cu, hb, _⟩ := h.blk
    rw [hb] at hi; cases hi; exact ht (.inl rfl)
  · obtain ⟨cur', hc⟩ := own_obj h.own e.symm
    rw [hc] at hi; cases hi; exact ht (.inr rfl))⟩
theorem rn_fr (h : Nt B w b bm nb room D v c L) (r : Rn B w p there room bs v2 c' H) (f : Fr b bm v w w' v') : Rn B w' p there room bs v2 c' H := by
  refine r.keep f.kp (fun i hi hs => ⟨fun hq => ?_, fun cur hc => h.byte hc hs⟩)
  have key : ∃ cur ty, w.heap[i]? = some (.cells cur ty (0, 0)) ∧ (ty = 117 ∨ ty = 120) := by
    rcases hq with rfl | e
    · obtain ⟨cu, hb, _⟩ := r.blk
      exact ⟨_, _, hb, .inl rfl⟩
    · obtain ⟨cur', hc⟩ := own_obj r.own e.symm
      exact ⟨_, _, hc, .inr rfl⟩
  obtain ⟨cur, ty, hc, ht⟩ := key
  rcases hs with rfl | rfl | e
  · rw [h.blk] at hc; cases hc; rcases ht with ht | ht <;> cases ht
  · obtain ⟨es, clock, hb⟩ := map_obj h.map
    rw [hb] at hc; cases hc
  · obtain ⟨cur', hc'⟩ := own_obj h.own e.symm
    rw [hc'] at hc; cases hc; rcases ht with ht | ht <;> cases ht
theorem nt_fq (h : Nt B w b bm nb room D v c L) (r : Rn B w p there room bs v2 c' H) (f : Fq p v2 w w' v2') : Nt B w' b bm nb room D v c L := by
  refine h.keep f.kp (fun i hi hs => ⟨fun hq => ?_, fun cur hc => r.byte hc hs⟩)
  have key : ∃ cur ty, w.heap[i]? = some (.cells cur ty (0, 0)) ∧ (ty = 117 ∨ ty = 120) := by
    rcases hs with rfl | e
    · obtain ⟨cu, hb, _⟩ := r.blk
      exact ⟨_, _, hb, .inl rfl⟩
    · obtain ⟨cur', hc⟩ := own_obj r.own e.symm
      exact ⟨_, _, hc, .inr rfl⟩
  obtain ⟨cur, ty, hc, ht⟩ := key
  rcases hq with rfl | rfl | e
  · rw [h.blk] at hc; cases hc; rcases ht with ht | ht <;> cases ht
  · obtain ⟨es, clock, hb⟩ := map_obj h.map
    rw [hb] at hc; cases hc
  · obtain ⟨cur', hc'⟩ := own_obj h.own e.symm
    rw [hc'] at hc; cases hc; rcases ht with ht | ht <;> cases ht
end

/-- both networks, behind k steps, made behind the world w0 -/
structure Lv (w0 w : World) (b bm nb p : Nat) (room : Int) (D : DataW Unit) (v v2 : Value) (c : Ct) (L : List Gm) (H : List Hg) (bs : Nat → Bool) (k : Int) : Prop where
  nt : Nt w0.heap.size w b bm nb room D v c L
  rn : Rn w0.heap.size w p true room bs v2 c H
  al : Al L H
  br : Brs D bs
  inv : Inv c L k
  hk : (H.length : Int) ≤ k
  nbk : (nb : Int) ≤ k
  kp : Kp Nu w0 w
def Stt (w0 w : World) (n : Value) (p : Nat) (k : Int) : Prop :=
  (∃ b bm nb room D v v2 c L H bs, n = .pointer (some ⟨b, 0, none⟩) ∧ Lv w0 w b bm nb p room D v v2 c L H bs k) ∨
  (n = .pointer none ∧ Kp Nu w0 w ∧ Rn w0.heap.size w p false 0 (fun _ => false) (.slice none 0 0) Ct0 [])
theorem Inv.up {c : Ct} {L : List Gm} {k : Int} (h : Inv c L k) : Inv c L (k + 1) := h.step (kind := 0) .same
theorem Lv.nu {w0 w w' : World} {b bm nb p : Nat} {room : Int} {D : DataW Unit} {v v2 : Value} {c : Ct} {L : List Gm} {H : List Hg} {bs : Nat → Bool} {k : Int} (h : Lv w0 w b bm nb p room D v v2 c L H bs k) (q : Kp Nu w w') : Lv w0 w' b bm nb p room D v v2 c L H bs k :=
  ⟨h.nt.nu q, h.rn.nu q, h.al, h.br, h.inv, h.hk, h.nbk, h.kp.andNu q⟩
theorem Lv.up {w0 w : World} {b bm nb p : Nat} {room : Int} {D : DataW Unit} {v v2 : Value} {c : Ct} {L : List Gm} {H : List Hg} {bs : Nat → Bool} {k : Int} (h : Lv w0 w b bm nb p room D v v2 c L H bs k) : Lv w0 w b bm nb p room D v v2 c L H bs (k + 1) :=
  ⟨h.nt, h.rn, h.al, h.br, h.inv.up, by have := h.hk; omega, by have := h.nbk; omega, h.kp⟩
theorem Stt.kp {w0 w : World} {n : Value} {p : Nat} {k : Int} (h : Stt w0 w n p k) : Kp Nu w0 w := by
  rcases h with ⟨b, bm, nb, room, D, v, v2, c, L, H, bs, rfl, h⟩ | ⟨rfl, h, _⟩
  · exact h.kp
  · exact h
theorem Stt.nu {w0 w w' : World} {n : Value} {p : Nat} {k : Int} (h : Stt w0 w n p k) (q : Kp Nu w w') : Stt w0 w' n p k := by
  rcases h with ⟨b, bm, nb, room, D, v, v2, c, L, H, bs, rfl, h⟩ | ⟨rfl, h, r⟩
  · exact .inl ⟨b, bm, nb, room, D, v, v2, c, L, H, bs, rfl, h.nu q⟩
  · exact .inr ⟨rfl, h.andNu q, r.nu q⟩
theorem Stt.up {w0 w : World} {n : Value} {p : Nat} {k : Int} (h : Stt w0 w n p k) : Stt w0 w n p (k + 1) := by
  rcases h with ⟨b, bm, nb, room, D, v, v2, c, L, H, bs, rfl, h⟩ | ⟨rfl, h, r⟩
  · exact .inl ⟨b, bm, nb, room, D, v, v2, c, L, H, bs, rfl, h.up⟩
  · exact .inr ⟨rfl, h, r⟩
theorem Stt.ptr {w0 w : World} {n : Value} {p : Nat} {k : Int} (h : Stt w0 w n p k) : ∃ a, n = .pointer a := by
  rcases h with ⟨b, bm, nb, room, D, v, v2, c, L, H, bs, rfl, h⟩ | ⟨rfl, h, r⟩
  · exact ⟨_, rfl⟩
  · exact ⟨_, rfl⟩
/-- the world w' behind a call of the network's own, from w0 -/
theorem kp_fr {w0 w w' : World} {b bm nb : Nat} {room : Int} {D : DataW Unit} {v v' : Value} {c : Ct} {L : List Gm} (k : Kp Nu w0 w) (h : Nt w0.heap.size w b bm nb room D v c L) (f : Fr b bm v w w' v') : Kp Nu w0 w' :=
  k.trans f.kp (fun i hi e => by have := h.low i e; omega)
theorem kp_fq {w0 w w' : World} {p : Nat} {there : Bool} {room : Int} {bs : Nat → Bool} {v v' : Value} {c : Ct} {H : List Hg} (k : Kp Nu w0 w) (h : Rn w0.heap.size w p there room bs v c H) (f : Fq p v w w' v') : Kp Nu w0 w' :=
  k.trans f.kp (fun i hi e => by have := h.low i e; omega)
/-- behind both calls -/
theorem Lv.fin {w0 W w' : World} {b bm nb p : Nat} {room : Int} {D : DataW Unit} {v v2 v2' : Value} {c c' : Ct} {L : List Gm} {H H' : List Hg} {bs bs' : Nat → Bool} {k : Int}
    (kw : Kp Nu w0 W) (nt : Nt w0.heap.size W b bm nb room D v c' L) (rW : Rn w0.heap.size W p true room bs v2 c H) (rn : Rn w0.heap.size w' p true room bs' v2' c' H') (f : Fq p v2 W w' v2') (al : Al L H') (br : Brs D bs') (inv : Inv c' L k) (hk : (H'.length : Int) ≤ k) (nbk : (nb : Int) ≤ k) :
    Lv w0 w' b bm nb p room D v v2' c' L H' bs' k :=
  ⟨nt_fq nt rW f, rn, al, br, inv, hk, nbk, kp_fq kw rW f⟩
theorem Rd.of0 {w0 w : World} {d : Value} {ys : List Int} (h : Rd w0 d ys) (k : Kp Nu w0 w) : Rd w d ys := h.nu k

set_option maxHeartbeats 1000000 in
theorem send_pair {w0 w : World} {n : Value} {p : Nat} {k : Int} (h : Stt w0 w n p k) (hkb : k < 1599289640400) (f t : Int) (f0 : 0 ≤ f) (f1 : f < 256) (t0 : 0 ≤ t) (t1 : t < 256) (u dv : Value) (ys : List Int) (hu : Rd w u ys) (hd : Rd w0 dv ys) :
    Calls Try.prog 16 #[n, .int .u8 f, .int .u8 t, u] w fun e w' => ∃ code, e = .returned (.int .i64 code) ∧ Ob Tp w w' ∧ Kp Nu w0 w' ∧ ∀ W, Kp Nu w' W → Calls Try.prog 68 #[.pointer (some ⟨p, 0, none⟩), .int .i64 f, .int .i64 t, dv, .bool false] W fun e w'' => e = .returned (.int .i64 code) ∧ Stt w0 w'' n p (k + 1) ∧ Ob Tq W w'' := by
  obtain ⟨adv, capv, edv⟩ := hd.slice
  rcases h with ⟨b, bm, nb, room, D, v, v2, c, L, H, bs, rfl, h⟩ | ⟨rfl, h, r⟩
  · have hH : (H.length : Int) ≤ 1599289640400 := by have := h.hk; omega
    have hfar : Far c := (h.inv.fax (by omega)).far
    have hlen := h.al.length
    by_cases hf : ¬ 33 ≤ f
    · refine (send_in h.nt f t f0 (by omega) t0 t1 u ys hu hfar).mono ?_
      rintro e w2 ⟨code, c', v', L', rfl, hE, hN, hF⟩
      have kw := kp_fr h.kp h.nt hF
      have rw2 := rn_fr h.nt h.rn hF
      refine ⟨code, rfl, Ob.of_fr h.nt hF, kw, fun W kW => ?_⟩
      have hNW := hN.nu kW
      have hRW := rw2.nu kW
      have kW0 := kw.andNu kW
      have hfi : ¬ f ≥ 33 := by omega
      have hpl := ent_pl hE (kind := 1) rfl (by omega)
      rcases hE with ⟨rfl, hy, rfl, rfl⟩ | ⟨y0, y1, ⟨rfl, hbar, rfl, rfl⟩ | ⟨rfl, hbar, hfl, rfl, rfl⟩ | ⟨rfl, hbar, hfl, rfl, d', rfl⟩⟩
      · refine (enter_long0 hRW f t dv adv _ capv edv hfi hy).mono ?_
        rintro e w3 ⟨rfl, rfl⟩
        exact ⟨rfl, .inl ⟨_, _, _, _, _, _, _, _, _, _, _, rfl, Lv.fin kW0 hNW hRW hRW (Fq.refl _ _ _) h.al h.br (h.inv.step hpl) (by have := h.hk; omega) (by have := h.nbk; omega)⟩, Ob.of_nu (Kp.refl _ _)⟩
      · rw [h.br f t f0 f1 t0 t1] at hbar
        refine (enter_bar0 hRW hfar f t f0 f1 t0 t1 dv adv _ capv edv hfi y0 y1 hbar).mono ?_
        rintro e w3 ⟨rfl, r3, f3⟩
        exact ⟨rfl, .inl ⟨_, _, _, _, _, _, _, _, _, _, _, rfl, Lv.fin kW0 hNW hRW r3 f3 h.al h.br (h.inv.step hpl) (by have := h.hk; omega) (by have := h.nbk; omega)⟩, Ob.of_fq hRW f3⟩
      · rw [h.br f t f0 f1 t0 t1] at hbar
        refine (enter_full0 hRW hH hfar f t f0 f1 t0 t1 dv adv _ capv edv hfi y0 y1 hbar (by rw [hlen]; exact hfl)).mono ?_
        rintro e w3 ⟨rfl, r3, f3⟩
        exact ⟨rfl, .inl ⟨_, _, _, _, _, _, _, _, _, _, _, rfl, Lv.fin kW0 hNW hRW r3 f3 h.al h.br (h.inv.step hpl) (by have := h.hk; omega) (by have := h.nbk; omega)⟩, Ob.of_fq hRW f3⟩
      · rw [h.br f t f0 f1 t0 t1] at hbar
        rcases hd.of0 kW0 with ⟨_, e0⟩ | ⟨a, cap, ed, hc⟩
        · rw [e0] at y0; simp at y0
        · subst ed
          have hap : a.block ≠ p := by
            have hb := h.rn.hb
            rcases hd with ⟨e1, _⟩ | ⟨a1, cap1, e1, hc1⟩
            · cases e1
            · simp only [Value.slice.injEq, Option.some.injEq] at e1
              obtain ⟨rfl, _, _⟩ := e1
              have h1 := hc1 0 (.int .u8 ys[0]) (by simp [cs, y0])
              have := World.block_lt_of_cell? w0 _ h1
              rw [add_block] at this
              omega
          refine (enter_ok0 hRW hH hfar f t f0 f1 t0 t1 a ys ys.length cap rfl hc hap hfi y0 y1 hbar (by rw [hlen]; exact hfl)).mono ?_
          rintro e w3 ⟨rfl, v3, d3, r3, f3⟩
          exact ⟨rfl, .inl ⟨_, _, _, _, _, _, _, _, _, _, _, rfl, Lv.fin kW0 hNW hRW r3 f3 (h.al.push rfl rfl) h.br (h.inv.step hpl) (by have := h.hk; simp; omega) (by have := h.nbk; omega)⟩, Ob.of_fq hRW f3⟩
    · refine (send_out h.nt f t (by omega) u ys hu).mono ?_
      rintro e w2 ⟨rfl, rfl⟩
      refine ⟨55, rfl, Ob.of_nu (Kp.refl _ _), h.kp, fun W kW => ?_⟩
      have hfi : f ≥ 33 := by omega
      refine (enter_src0 (h.rn.nu kW) f t dv adv _ capv edv hfi).mono ?_
      rintro e w3 ⟨rfl, rfl⟩
      exact ⟨rfl, (Stt.up (.inl ⟨_, _, _, _, _, _, _, _, _, _, _, rfl, h⟩)).nu kW, Ob.of_nu (Kp.refl _ _)⟩
  · obtain ⟨adu, capu, eu⟩ := hu.slice
    refine (send_nil w f t u adu _ capu eu).mono ?_
    rintro e w2 ⟨rfl, rfl⟩
    refine ⟨1, rfl, Ob.of_nu (Kp.refl _ _), h, fun W kW => ?_⟩
    refine (enter_no (r.nu kW) f t dv false adv _ capv edv).mono ?_
    rintro e w3 ⟨rfl, rfl⟩
    exact ⟨rfl, .inr ⟨rfl, h.andNu kW, r.nu kW⟩, Ob.of_nu (Kp.refl _ _)⟩

set_option maxHeartbeats 1000000 in
theorem inject_pair {w0 w : World} {n : Value} {p : Nat} {k : Int} (h : Stt w0 w n p k) (hkb : k < 1599289640400) (f t : Int) (f0 : 0 ≤ f) (f1 : f < 256) (t0 : 0 ≤ t) (t1 : t < 256) (u dv : Value) (ys : List Int) (hu : Rd w u ys) (hd : Rd w0 dv ys) :
    Calls Try.prog 34 #[n, .int .u8 f, .int .u8 t, u] w fun e w' => ∃ code, e = .returned (.int .i64 code) ∧ Ob Tp w w' ∧ Kp Nu w0 w' ∧ ∀ W, Kp Nu w' W → Calls Try.prog 68 #[.pointer (some ⟨p, 0, none⟩), .int .i64 f, .int .i64 t, dv, .bool true] W fun e w'' => e = .returned (.int .i64 code) ∧ Stt w0 w'' n p (k + 1) ∧ Ob Tq W w'' := by
  obtain ⟨adv, capv, edv⟩ := hd.slice
  rcases h with ⟨b, bm, nb, room, D, v, v2, c, L, H, bs, rfl, h⟩ | ⟨rfl, h, r⟩
  · have hH : (H.length : Int) ≤ 1599289640400 := by have := h.hk; omega
    have hfar : Far c := (h.inv.fax (by omega)).far
    have hlen := h.al.length
    by_cases hf : 33 ≤ f
    · refine (inject_out h.nt f t hf f1 t0 t1 u ys hu hfar).mono ?_
      rintro e w2 ⟨code, c', v', L', rfl, hE, hN, hF⟩
      have kw := kp_fr h.kp h.nt hF
      have rw2 := rn_fr h.nt h.rn hF
      refine ⟨code, rfl, Ob.of_fr h.nt hF, kw, fun W kW => ?_⟩
      have hNW := hN.nu kW
      have hRW := rw2.nu kW
      have kW0 := kw.andNu kW
      have hfi : f ≥ 33 := by omega
      have hpl := ent_pl2 hE (kind := 2) rfl hf
      rcases hE with ⟨rfl, hy, rfl, rfl⟩ | ⟨y0, y1, ⟨rfl, hbar, rfl, rfl⟩ | ⟨rfl, hbar, hfl, rfl, rfl⟩ | ⟨rfl, hbar, hfl, rfl, d', rfl⟩⟩
      · refine (enter_long1 hRW f t dv adv _ capv edv hfi hy).mono ?_
        rintro e w3 ⟨rfl, rfl⟩
        exact ⟨rfl, .inl ⟨_, _, _, _, _, _, _, _, _, _, _, rfl, Lv.fin kW0 hNW hRW hRW (Fq.refl _ _ _) h.al h.br (h.inv.step hpl) (by have := h.hk; omega) (by have := h.nbk; omega)⟩, Ob.of_nu (Kp.refl _ _)⟩
      · rw [h.br f t f0 f1 t0 t1] at hbar
        refine (enter_bar1 hRW hfar f t f0 f1 t0 t1 dv adv _ capv edv hfi y0 y1 hbar).mono ?_
        rintro e w3 ⟨rfl, r3, f3⟩
        exact ⟨rfl, .inl ⟨_, _, _, _, _, _, _, _, _, _, _, rfl, Lv.fin kW0 hNW hRW r3 f3 h.al h.br (h.inv.step hpl) (by have := h.hk; omega) (by have := h.nbk; omega)⟩, Ob.of_fq hRW f3⟩
      · rw [h.br f t f0 f1 t0 t1] at hbar
        refine (enter_full1 hRW hH hfar f t f0 f1 t0 t1 dv adv _ capv edv hfi y0 y1 hbar (by rw [hlen]; exact hfl)).mono ?_
        rintro e w3 ⟨rfl, r3, f3⟩
        exact ⟨rfl, .inl ⟨_, _, _, _, _, _, _, _, _, _, _, rfl, Lv.fin kW0 hNW hRW r3 f3 h.al h.br (h.inv.step hpl) (by have := h.hk; omega) (by have := h.nbk; omega)⟩, Ob.of_fq hRW f3⟩
      · rw [h.br f t f0 f1 t0 t1] at hbar
        rcases hd.of0 kW0 with ⟨_, e0⟩ | ⟨a, cap, ed, hc⟩
        · rw [e0] at y0; simp at y0
        · subst ed
          have hap : a.block ≠ p := by
            have hb := h.rn.hb
            rcases hd with ⟨e1, _⟩ | ⟨a1, cap1, e1, hc1⟩
            · cases e1
            · simp only [Value.slice.injEq, Option.some.injEq] at e1
              obtain ⟨rfl, _, _⟩ := e1
              have h1 := hc1 0 (.int .u8 ys[0]) (by simp [cs, y0])
              have := World.block_lt_of_cell? w0 _ h1
              rw [add_block] at this
              omega
          refine (enter_ok1 hRW hH hfar f t f0 f1 t0 t1 a ys ys.length cap rfl hc hap hfi y0 y1 hbar (by rw [hlen]; exact hfl)).mono ?_
          rintro e w3 ⟨rfl, v3, d3, r3, f3⟩
          exact ⟨rfl, .inl ⟨_, _, _, _, _, _, _, _, _, _, _, rfl, Lv.fin kW0 hNW hRW r3 f3 (h.al.push rfl rfl) h.br (h.inv.step hpl) (by have := h.hk; simp; omega) (by have := h.nbk; omega)⟩, Ob.of_fq hRW f3⟩
    · refine (inject_in h.nt f t (by omega) u ys hu).mono ?_
      rintro e w2 ⟨rfl, rfl⟩
      refine ⟨55, rfl, Ob.of_nu (Kp.refl _ _), h.kp, fun W kW => ?_⟩
      have hfi : ¬ f ≥ 33 := by omega
      refine (enter_src1 (h.rn.nu kW) f t dv adv _ capv edv hfi).mono ?_
      rintro e w3 ⟨rfl, rfl⟩
      exact ⟨rfl, (Stt.up (.inl ⟨_, _, _, _, _, _, _, _, _, _, _, rfl, h⟩)).nu kW, Ob.of_nu (Kp.refl _ _)⟩
  · obtain ⟨adu, capu, eu⟩ := hu.slice
    refine (inject_nil w f t u adu _ capu eu).mono ?_
    rintro e w2 ⟨rfl, rfl⟩
    refine ⟨1, rfl, Ob.of_nu (Kp.refl _ _), h, fun W kW => ?_⟩
    refine (enter_no (r.nu kW) f t dv true adv _ capv edv).mono ?_
    rintro e w3 ⟨rfl, rfl⟩
    exact ⟨rfl, .inr ⟨rfl, h.andNu kW, r.nu kW⟩, Ob.of_nu (Kp.refl _ _)⟩
end Go.Proofs.Ythajboipnjjgfaa.Ly
