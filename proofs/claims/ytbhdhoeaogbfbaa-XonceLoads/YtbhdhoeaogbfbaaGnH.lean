import Derived.Test.YtbhdhoeaogbfbaaGnG
namespace Go.Proofs.Ytbhdhoeaogbfbaa.Xo
open Go.RowKit
set_option linter.unusedVariables false
/-- a list of payloads at a slice -/
def Lq (w : World) (v : Value) (qs : List (Value × List Int)) : Prop := (∃ ad cap, v = .slice ad 0 cap ∧ qs = []) ∨ ∃ r off cap, v = .slice (some ⟨r, off, none⟩) qs.length cap ∧ Rl w r off qs
/-- frames that can be read, of whatever length -/
def Rfl (w : World) (r off : Nat) (es : List Fm) : Prop := ∀ (i : Nat) (x : Fm), es[i]? = some x → w.cell? ⟨r, off + i * 2, none⟩ = some (.int .u64 x.seq) ∧ w.cell? ⟨r, off + i * 2 + 1, none⟩ = some x.v ∧ Rd w x.v x.ys
def Le (w : World) (v : Value) (es : List Fm) : Prop := (∃ ad cap, v = .slice ad 0 cap ∧ es = []) ∨ ∃ r off cap, v = .slice (some ⟨r, off, none⟩) es.length cap ∧ Rfl w r off es
theorem Lq.slice {w : World} {v : Value} {qs : List (Value × List Int)} (h : Lq w v qs) : ∃ ad cap, v = .slice ad qs.length cap := by
  rcases h with ⟨ad, cap, rfl, rfl⟩ | ⟨r, off, cap, rfl, _⟩
  · exact ⟨ad, cap, rfl⟩
  · exact ⟨_, cap, rfl⟩
theorem Le.slice {w : World} {v : Value} {es : List Fm} (h : Le w v es) : ∃ ad cap, v = .slice ad es.length cap := by
  rcases h with ⟨ad, cap, rfl, rfl⟩ | ⟨r, off, cap, rfl, _⟩
  · exact ⟨ad, cap, rfl⟩
  · exact ⟨_, cap, rfl⟩
theorem Lq.nu {w w' : World} {v : Value} {qs : List (Value × List Int)} (h : Lq w v qs) (k : Kp Nu w w') : Lq w' v qs := by
  rcases h with h | ⟨r, off, cap, e, h⟩
  · exact .inl h
  · exact .inr ⟨r, off, cap, e, h.nu k⟩
theorem Rfl.nu {w w' : World} {r off : Nat} {es : List Fm} (h : Rfl w r off es) (k : Kp Nu w w') : Rfl w' r off es := fun i x hi => by
  obtain ⟨h1, h2, h3⟩ := h i x hi
  exact ⟨(World.cell?_of_block (k.block _ (World.block_lt_of_cell? w _ h1) (fun h => h))).trans h1, (World.cell?_of_block (k.block _ (World.block_lt_of_cell? w _ h2) (fun h => h))).trans h2, h3.nu k⟩
theorem Le.nu {w w' : World} {v : Value} {es : List Fm} (h : Le w v es) (k : Kp Nu w w') : Le w' v es := by
  rcases h with h | ⟨r, off, cap, e, h⟩
  · exact .inl h
  · exact .inr ⟨r, off, cap, e, h.nu k⟩
end Go.Proofs.Ytbhdhoeaogbfbaa.Xo
