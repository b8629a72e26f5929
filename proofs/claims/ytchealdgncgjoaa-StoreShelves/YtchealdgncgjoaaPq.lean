import Derived.Test.YtchealdgncgjoaaItC
namespace Go.Proofs.Ytchealdgncgjoaa.St
open Go.RowKit
theorem eqp {P : Program} (w : World) (t : TypeId) (b : Nat) (h : P.underlying t = some (.pointer (P.pointee t))) (n : Nat) (hn : (sizeOf (P.pointee t)).run P w = .ok n w) : (binOp .eql t (.pointer (some ⟨b, 0, none⟩)) (.pointer (some ⟨b, 0, none⟩))).run P w = .ok (.bool true) w := by
  have h0 : ∀ d, (Op.equalIn (d + 1) t (.pointer (some ⟨b, 0, none⟩)) (.pointer (some ⟨b, 0, none⟩))).run P w = .ok true w := fun d => by
    simp [Op.equalIn, run_underlying h, hn, sameAddr]
  have : (Op.equal t (.pointer (some ⟨b, 0, none⟩)) (.pointer (some ⟨b, 0, none⟩))).run P w = .ok true w := h0 9999
  simp only [binOp]
  simp [this]
set_option maxRecDepth 1000000 in
theorem eq128 (w : World) (b : Nat) : (binOp .eql 128 (.pointer (some ⟨b, 0, none⟩)) (.pointer (some ⟨b, 0, none⟩))).run Try.prog w = .ok (.bool true) w := eqp w 128 b Try.underlying128 6 rfl
end Go.Proofs.Ytchealdgncgjoaa.St
