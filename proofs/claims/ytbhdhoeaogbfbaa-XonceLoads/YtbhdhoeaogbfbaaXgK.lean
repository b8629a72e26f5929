import Derived.Test.YtbhdhoeaogbfbaaXgJ
import Derived.Test.YtbhdhoeaogbfbaaXgH
import Derived.Test.YtbhdhoeaogbfbaaXgE
namespace Go.Proofs.Ytbhdhoeaogbfbaa.Xo
open Go.RowKit
set_option linter.unusedVariables false
set_option linter.unusedSimpArgs false
theorem right75 (w : World) (db : Nat) (s a m dl qn wn dd : Int) (q e : Value) (qs : List (Value × List Int)) (es : List Fm) (hq : Lq w q qs) (he : Le w e es) (c3 : w.cell? ⟨db, 3, none⟩ = some (.int .i64 qn)) (c4 : w.cell? ⟨db, 4, none⟩ = some (.int .i64 wn)) (e0 : IntKind.u64.wrap (s - a) = dd) (h0 : 0 ≤ m) (hm : m ≤ 18446744073709551615) (hqn : qn ≤ 16) (hwn : 0 ≤ wn ∧ wn ≤ 16) (hdl : 0 ≤ dl) (hsq : ∀ f ∈ es, f.seq ≤ 18446744073709551615) (hel : es.length ≤ 140737488351232) (hql : qs.length ≤ 140737488351232) :
    Calls Try.prog 75 #[.pointer (some ⟨db, 0, none⟩), .agg #[.int .u64 s, .int .u64 a, q, .int .u64 m, .int .u64 dl, e]] w fun e w' => e = .returned (.bool (okO s a m qn dd qs && okE dl wn 1 es)) ∧ Kp Nu w w' := by
  rw [okO_N]
  cases hN : okN s a m qn dd qs.length with
  | true =>
    rw [Bool.true_and]
    exact right_yes w db s a m dl qn wn dd q e qs es hq he c3 c4 e0 h0 hm hqn hwn hdl hsq hel hN
  | false =>
    obtain ⟨aq, cq, rfl⟩ := hq.slice
    obtain ⟨ae, ce, rfl⟩ := he.slice
    exact right_no w db s a m dl qn wn dd aq ae qs.length cq es.length ce c3 c4 e0 h0 hm hql hN
/-- a state in a list may be loaded there -/
def goodP (sf qn wn : Int) (i : Nat) (x : Px) : Bool := if (i : Int) = sf then zeroS x.p.sent x.p.acked x.p.mask x.p.dlv x.p.qs.length x.es.length else (okO x.p.sent x.p.acked x.p.mask qn (IntKind.u64.wrap (x.p.sent - x.p.acked)) x.p.qs && okE x.p.dlv wn 1 x.es)
def ldOk (sf hosts qn wn : Int) (I : List Px) : Prop := newOk sf hosts qn wn ∧ (I.length : Int) = hosts ∧ ∀ i x, I[i]? = some x → goodP sf qn wn i x = true
theorem set6 {w : World} {b : Nat} {ty : TypeId} {ps : List Pr} (h : Row w b ty ps) {k : Nat} {p : Pr} (hk : ps[k]? = some p) (s a : Int) (q : Value) (qs : List (Value × List Int)) (m d : Int) (e : Value) :
    Row ((((((w.setCell ⟨b, k * 6, none⟩ (.int .u64 s)).setCell ⟨b, k * 6 + 1, none⟩ (.int .u64 a)).setCell ⟨b, k * 6 + 2, none⟩ q).setCell ⟨b, k * 6 + 3, none⟩ (.int .u64 m)).setCell ⟨b, k * 6 + 4, none⟩ (.int .u64 d)).setCell ⟨b, k * 6 + 5, none⟩ e) b ty (ps.set k ⟨s, a, q, qs, m, d, e⟩) := by
  have h1 := h.set hk 0 (by omega) (.int .u64 s) ⟨s, p.acked, p.q, p.qs, p.mask, p.dlv, p.e⟩ rfl
  have h2 := h1.set (set_self hk _) 1 (by omega) (.int .u64 a) ⟨s, a, p.q, p.qs, p.mask, p.dlv, p.e⟩ rfl
  have h3 := h2.set (set_self (set_self hk _) _) 2 (by omega) q ⟨s, a, q, qs, p.mask, p.dlv, p.e⟩ rfl
  have h4 := h3.set (set_self (set_self (set_self hk _) _) _) 3 (by omega) (.int .u64 m) ⟨s, a, q, qs, m, p.dlv, p.e⟩ rfl
  have h5 := h4.set (set_self (set_self (set_self (set_self hk _) _) _) _) 4 (by omega) (.int .u64 d) ⟨s, a, q, qs, m, d, p.e⟩ rfl
  have h6 := h5.set (set_self (set_self (set_self (set_self (set_self hk _) _) _) _) _) 5 (by omega) e ⟨s, a, q, qs, m, d, e⟩ rfl
  simpa using h6
end Go.Proofs.Ytbhdhoeaogbfbaa.Xo
