import Derived.Test.YthajboipnjjgfaaBkH
namespace Go.Proofs.Ythajboipnjjgfaa.Ly
open Go.RowKit Go.Maps
set_option linter.unusedVariables false

set_option maxRecDepth 100000 in
set_option maxHeartbeats 1000000 in
theorem booked_3bar {w0 w : World} {b bm nb : Nat} {room : Int} {D : DataW Unit} {v : Value} {c : Ct} {L : List Gm} {u : Value} {M : List Gm} (h : Bs w0 w b bm nb room D v c L u M) (hc : Fax c) (A E : Int) (p : Nat) (kp : Bool) (atv dv : Value) (xs ys : List Int) (hr : RdI w0 atv xs) (hd : Rd w0 dv ys) {g : Gm} (hg : L[p]? = some g) (hbar : bar D g.f g.t = true) :
    Calls Try.prog 36 #[.pointer (some ⟨b, 0, none⟩), u, .agg #[.int .i64 3, .int .i64 A, .int .i64 E, .int .i64 (p : Int), .bool kp, atv, dv], .int .i64 room] w fun e w' => e = .returned (.tuple #[u, .bool true]) ∧ Bs w0 w' b bm nb room D v c L u M := by
  have mixed : Try.prog.follows .mixedOrders = true := by kernel_rfl
  have K1 := (Kp.alloc w (.cells #[.int .i64 3, .int .i64 A, .int .i64 E, .int .i64 (p : Int), .bool kp, atv, dv] 55) Nu).drew
  have DE := fun W (k : Kp Nu w W) => deliver_bar (h.nu k).nt p kp hg hbar
  have HH := hide h
  have hp : p < L.length := (List.getElem?_eq_some_iff.1 hg).1
  have hp2 : (p : Int) < (M.length : Int) := by rw [h.len]; omega
  have hp0 : (0 : Int) ≤ (p : Int) := by omega
  have hp1 : (p : Int) ≥ 0 := hp0
  obtain ⟨ad, cap, hu⟩ := own_slice h.own
  obtain ⟨ad1, c1, e1⟩ := hr.slice
  obtain ⟨ad2, c2, e2⟩ := hd.slice
  subst hu e1 e2
  generalize xs.length = Nx at *
  generalize ys.length = Ny at *
  generalize M.length = NM at *
  clear hr hd h hg hbar hp
  have DE1 := DE _ K1
  go_enter Try.func36, Try.ntmps36
  go_wp2_with fail
  go_region
  go_wp2_with fail
  refine DE1.mono ?_
  rintro e w2 ⟨rfl, hk2⟩
  have hbx := (((Kp.refl Nu (w.alloc (.cells #[.int .i64 3, .int .i64 A, .int .i64 E, .int .i64 (p : Int), .bool kp, .slice ad1 Nx c1, .slice ad2 Ny c2] 55))).drew).andNu hk2).andAlloc (.cells #[.int .u8 0, .int .u8 0, .slice none 0 0] 38)
  have hb3 := new_at w _ hbx
  have x3 : (w2.alloc (.cells #[.int .u8 0, .int .u8 0, .slice none 0 0] 38)).cell? ⟨w.heap.size, 3, none⟩ = some (.int .i64 (p : Int)) := by simp only [World.cell?, hb3]; rfl
  have nm := fun W => num_any 53 W
  have HF : Hid (Bs w0 (w2.alloc (.cells #[.int .u8 0, .int .u8 0, .slice none 0 0] 38)) b bm nb room D v c L (.slice ad NM cap) M) := HH.out.nu ((K1.andNu hk2).andAlloc _)
  clear DE DE1 hbx hb3 hk2 K1
  go_wp2_with fail
  refine (nm _).mono ?_; rintro e w3 ⟨rfl, rfl⟩
  go_wp2_with fail
  refine (nm _).mono ?_; rintro e w3 ⟨rfl, rfl⟩
  go_wp2
  go_ret2
  exact ⟨rfl, HF.out⟩

end Go.Proofs.Ythajboipnjjgfaa.Ly
