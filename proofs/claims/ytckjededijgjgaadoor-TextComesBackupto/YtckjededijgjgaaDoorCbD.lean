import Derived.Test.YtckjededijgjgaaDoorCbC
import Derived.Test.YtckjededijgjgaaDoorPcL
import Derived.BigQuiet
import Derived.Deep.QuietTactic
import Derived.WalkSmall
namespace Go.Proofs.YtckjededijgjgaaDoor.Cb
open Go.RowKit
open Go.Proofs.YtckjededijgjgaaDoor.Pc (P4 pieces pcF At row_cells pieces_big width_le)
open Go.Proofs.YtckjededijgjgaaDoor.Enc (Spans plainF plain_any)
open Go.Proofs.YtckjededijgjgaaDoor.Uq (unqF three unquote_any)
set_option linter.unusedVariables false

theorem ret_b {a : Bool} (h : a = true) : Ending.returned (.bool a) = .returned (.bool true) := by rw [h]
theorem hide {p : Prop} (h : p) : Hid p := h

set_option maxRecDepth 100000 in
set_option maxHeartbeats 1600000 in
theorem comesBack_walk (b : ByteArray) (hb : b.size ≤ 1048576) (w : World) (hT : Hx.Tabs w) (R off cap : Nat) (hS : Spans w R off cap) :
    Calls Tryd.prog 10 #[.string b] w fun e w' => e = .returned (.bool true) ∧ Below w.heap.size w w' := by
  have C1 := Qt.quote_any b hb w hT R off cap hS
  have hqb := Q_bound b hb
  have hqz := Q_size b
  have C2 := fun w (h : Spans w R off cap) => unquote_any (Q b) hqb w R off cap h
  have C3 := fun w => (callsIn_wide (n := 4)).1 (pieces_big 4 (by omega) (Q b) hqb w)
  obtain ⟨hu, hpl⟩ := Q_back b
  rw [hu] at C2
  have h0 : 0 < (Q b).size := by omega
  have h2 : 2 ≤ (Q b).size := by omega
  have h1 : (Q b).size - 1 < (Q b).size := by omega
  have f0 := Q_first b h0
  have f1 := Q_last b h1
  have hba : (⟨b.data.toList.toArray⟩ : ByteArray) = b := Uq.ba b
  have C1' : Calls Tryd.prog 25 #[.string b] w fun e W' => e = .returned (.string (Q b)) ∧ Below w.heap.size w W' := C1
  have C2' : ∀ w, Spans w R off cap → Calls Tryd.prog 33 #[.string (Q b)] w fun e W' => e = .returned (.tuple #[.string b, .int .i64 0, .int .i64 0]) ∧ Below w.heap.size w W' := fun w h => by
    have := C2 w h
    unfold Uq.three at this
    simp only [hba] at this
    exact this
  have hPL : Hid (∀ k (x : P4), (pieces (Q b))[k]? = some x → x.2.2.2 = false ∧ plainF x.1 = true) := fun k x hx => hpl x (by
    rw [PF_zero]
    exact List.mem_of_getElem? hx)
  clear C1 C2 hu hpl hba hqz hT
  generalize Q b = q at *
  have g0 : ((q[0].toNat : Int) != 34) = false := by rw [f0]; rfl
  have g1 : ((q[q.size - 1].toNat : Int) != 34) = false := by rw [f1]; rfl
  have bb : (b.toList == b.toList) = true := by simp
  have hqI : (q.size : Int) ≤ 11000000 := by omega
  have h2I : (2 : Int) ≤ (q.size : Int) := by omega
  have hpp := Rn.pieces_pos (s := q) (by omega)
  go_enter Tryd.func10, Tryd.ntmps10
  go_wp2_with fail
  refine C1'.mono ?_; rintro e w1 ⟨rfl, hb1⟩
  have hS1 := hS.below hb1 (Nat.le_refl _)
  go_wp2_with fail
  refine (C2' _ hS1).mono ?_; rintro e w2 ⟨rfl, hb2⟩
  have hB2 := hb1.trans (hb2.mono hb1.size)
  go_wp2_with fail
  refine (C3 _).mono ?_; rintro e w3 ⟨v, rfl, hown, hb3⟩
  have hB3 := hB2.trans (hb3.mono hB2.size)
  have hS3 := hS.below hB3 (Nat.le_refl _)
  rcases hown.2 with ⟨rfl, hn0⟩ | ⟨g, cap', cur, rfl, hg, hcur, hcap, hmax, hcs, ht⟩
  · omega
  have hplen := Pc.pieces_len q
  clear C1' C2' C3 hown hg hcap hmax hcs g0 g1 f0 f1
  go_wp2_with fail
  go_loopw [8, 9] (fun z i wr => ∃ k pos : Nat, i = .int .i64 (k : Int) ∧ z = .int .i64 (pos : Int) ∧ Hid (At q k pos) ∧ pos ≤ q.size ∧ k ≤ (pieces q).length ∧ Below w3.heap.size w3 wr) (fun _ i _ => (pieces q).length - (intOf i).toNat)
  case atStart => exact ⟨0, 0, rfl, rfl, At.start q, by omega, by omega, Below.refl _ _⟩
  case round =>
    obtain ⟨k, pos, rfl, rfl, hA, hpos, hkl, hBr⟩ := hrel
    by_cases hlt : k < (pieces q).length
    · obtain ⟨hp, hx, hA2⟩ := hA.out.more hlt
      have hw := width_le q pos hp
      have hcur2 : wr.heap[g]? = some (.cells cur 55 (0, 0)) := (hBr.block g (Array.getElem?_eq_some_iff.1 hcur).1).trans hcur
      obtain ⟨c0, c1, c2, c3⟩ := row_cells hcur2 ht k _ hx
      obtain ⟨hbr, hpl⟩ := hPL.out k _ hx
      have hrr := Wd.pcF_range q pos
      have hat : (pcF q pos).2.1 = (pos : Int) ∧ (pcF q pos).2.2.1 = (((Utf8.decode q pos).2 : Nat) : Int) := by
        unfold Pc.pcF
        split
        · rename_i hd; rw [hd]; exact ⟨rfl, rfl⟩
        · exact ⟨rfl, rfl⟩
      rw [hbr] at c3
      rw [hat.1] at c1
      rw [hat.2] at c2
      have HA := hide hA2
      have HW := hide hw
      generalize (pcF q pos).1 = r at *
      generalize (Utf8.decode q pos).2 = wd at *
      have PLc := plain_any r wr R off cap (hS3.below hBr (Nat.le_refl _)) (by omega) (by omega)
      rw [hpl] at PLc
      have hltI : (k : Int) < ((pieces q).length : Int) := by omega
      have hposI : (pos : Int) ≤ 11000000 := by omega
      have hwdI : (wd : Int) ≤ 4 := by omega
      have hbp : ((pos : Int) != (pos : Int)) = false := by simp
      have hglt : g < wr.heap.size := (Array.getElem?_eq_some_iff.1 hcur2).1
      generalize hNN : (pieces q).length = NN at *
      clear hA hA2 hx hat hbr hpl hw hp hcur2 hcur ht hPL
      go_wp2_with fail
      refine PLc.mono ?_; rintro e w4 ⟨rfl, hb4⟩
      have hB4 := hBr.trans (hb4.mono hBr.size)
      have c1' := (hb4.cell (p := ⟨g, k * 4 + 1, none⟩) hglt).trans c1
      have c2' := (hb4.cell (p := ⟨g, k * 4 + 2, none⟩) hglt).trans c2
      have c3' := (hb4.cell (p := ⟨g, k * 4 + 3, none⟩) hglt).trans c3
      clear c0 c1 c2 c3 PLc hb4
      go_wp2
      exact ⟨⟨k + 1, pos + wd, by go_num, by go_num, HA.out, by have := HW.out; omega, by omega, hB4⟩, by simp [intOf]; omega⟩
    · have hpe := hide (hA.out.done hlt)
      have hge : ¬ (k : Int) < ((pieces q).length : Int) := by omega
      clear hA ht hPL
      go_wp2
      go_ret
      exact ⟨ret_b (by rw [beq_iff_eq]; have := hpe.out; omega), hB3.trans (hBr.mono hB3.size)⟩
end Go.Proofs.YtckjededijgjgaaDoor.Cb
