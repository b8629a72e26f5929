import Derived.Test.YtchealdgncgjoaaRtW
namespace Go.Proofs.Ytchealdgncgjoaa.StU
open Go.RowKit Go.Proofs.Ytchealdgncgjoaa.St Go.Shelf
set_option linter.unusedVariables false
set_option linter.unusedSimpArgs false
section
variable {W0 w0 w w' : World} {col0 : Nat → Nat} {c d : Nat} {a b : Value} {obs : List Ob} {o1 o2 o : Om}
theorem Sx.roomy (h : Sx W0 w0 col0 c d a b obs o1 o2 w) (u : Value) (ys : List Int) (hu : Rd W0 u ys) (hN : ys.length ≤ 140737488351232) (n : Nat) (hn : 5 ≤ n) :
    Calls Try.prog 136 #[u] w fun e w' => ∃ v : Sv, e = .returned (.slice v.a v.n v.c) ∧ Hid (Sx W0 w0 col0 c d a b (oRm v ys n :: obs) o1 o2 w') := by
  have hb := h.base
  obtain ⟨col, h⟩ := h
  refine (roomy136 w u ys (hu.nu hb) (by omega)).mono ?_
  rintro e w' ⟨v, e1, e2, k⟩
  exact ⟨v, e1, h.new k (Own.rom v ys) (Rom.of e2) n hn⟩
theorem Sx.clone (h : Sx W0 w0 col0 c d a b obs o1 o2 w) (u : Value) (ys : List Int) (hu : Rd W0 u ys) (hN : ys.length ≤ 140737488351232) (n : Nat) (hn : 5 ≤ n) :
    Calls Try.prog 48 #[u] w fun e w' => ∃ v : Sv, e = .returned (.slice v.a v.n v.c) ∧ Hid (Sx W0 w0 col0 c d a b (oRo v ys n :: obs) o1 o2 w') := by
  have hb := h.base
  obtain ⟨col, h⟩ := h
  refine (clone48 w u ys (hu.nu hb) (by omega)).mono ?_
  rintro e w' ⟨v, e1, e2, k⟩
  exact ⟨v, e1, h.new k (Own.ro v ys) (Ro.of e2) n hn⟩
theorem Sx.setP (h : Sx W0 w0 col0 c d a b obs o1 o2 w) (k : Int) (hk0 : 0 ≤ k) (hk1 : k ≤ 18446744073709551615) (i : Nat) {v : Sv} {ys : List Int} {n : Nat} (hi : obs[i]? = some (oRm v ys n)) (hby : Byt ys) :
    Calls Try.prog 47 #[a, .int .u64 k, .slice v.a v.n v.c] w fun e w' => e = .returned (.tuple #[.bool (oSetA o1 k ys).1, .int .i64 (oSetA o1 k ys).2]) ∧ Hid (Sx W0 w0 col0 c d a b obs (oSet o1 k ys) o2 w') := by
  obtain ⟨col, h⟩ := h
  refine (h.ps.set k hk0 hk1 (.slice v.a v.n v.c) ys (Rom.rd (h.get i hi)) hby).mono ?_
  rintro e w' ⟨e1, e2⟩
  exact ⟨e1, h.p e2.out.1 e2.out.2⟩
theorem Sx.setD (h : Sx W0 w0 col0 c d a b obs o1 o2 w) (k : Int) (hk0 : 0 ≤ k) (hk1 : k ≤ 18446744073709551615) (i : Nat) {v : Sv} {ys : List Int} {n : Nat} (hi : obs[i]? = some (oRo v ys n)) (hby : Byt ys) (h5 : ∀ x ∈ obs, 5 ≤ x.2) :
    Calls Try.prog 137 #[b, .int .u64 k, .slice v.a v.n v.c] w fun e w' => e = .returned (.tuple #[.bool (oSetA o2 k ys).1, .int .i64 (oSetA o2 k ys).2]) ∧ Hid (Sx W0 w0 col0 c d a b obs o1 (oSet o2 k ys) w') := by
  obtain ⟨col, h⟩ := h
  refine (h.ds.set k hk0 hk1 (.slice v.a v.n v.c) ys (Ro.rd (h.get i hi)) hby).mono ?_
  rintro e w' ⟨e1, e2⟩
  exact ⟨e1, h.dd e2.out.1 e2.out.2 h5⟩
theorem Sx.kept (h : Sx W0 w0 col0 c d a b obs o1 o2 w) (i : Nat) {v : Sv} {ys : List Int} {n : Nat} (hi : obs[i]? = some (oRm v ys n)) (hN : ys.length ≤ 140737488351232) : Calls Try.prog 138 #[.slice v.a v.n v.c] w fun e w' => e = .returned (.bool true) ∧ w' = w := by
  obtain ⟨col, h⟩ := h
  exact kept138 w 0 v ys (h.get i hi).1 (by omega)
theorem Sx.spoilM (h : Sx W0 w0 col0 c d a b obs o1 o2 w) (m : Int) (hm : 0 ≤ m ∧ m ≤ 200) (i t : Nat) {v : Sv} {ys : List Int} {n : Nat} (hi : obs[i]? = some (oRm v ys n)) (hn : 5 ≤ n) (hN : ys.length ≤ 140737488351232) (ha : ∀ x ∈ obs.take t, x.2 = d ∨ x.2 ≠ n) :
    Calls Try.prog 139 #[.slice v.a v.n v.c, .int .u8 m] w fun e w' => (∃ v, e = .returned v) ∧ Hid (Sx W0 w0 col0 c d a b (obs.take t) o1 o2 w') := by
  obtain ⟨col, h⟩ := h
  have hx : Rom v ys w (Co col n) := h.get i hi
  refine (spoil139 m hm hx.1.own (Nat.zero_le _) (by have := hx.1.1; omega)).mono ?_
  rintro e w' ⟨e1, k⟩
  exact ⟨e1, (h.take t).t n hn (Kg.of k (fun i hi q => ⟨hx.2 i q.symm, not211 hx.1.own (by decide) q.symm⟩)) ha⟩
theorem Sx.spoilO (h : Sx W0 w0 col0 c d a b obs o1 o2 w) (m : Int) (hm : 0 ≤ m ∧ m ≤ 200) (i t : Nat) {v : Sv} {ys : List Int} {n : Nat} (hi : obs[i]? = some (oRo v ys n)) (hn : 5 ≤ n) (hN : ys.length ≤ 64) (ha : ∀ x ∈ obs.take t, x.2 = d ∨ x.2 ≠ n) :
    Calls Try.prog 139 #[.slice v.a v.n v.c, .int .u8 m] w fun e w' => (∃ v, e = .returned v) ∧ Hid (Sx W0 w0 col0 c d a b (obs.take t) o1 o2 w') := by
  obtain ⟨col, h⟩ := h
  have hx : Ro v ys w (Co col n) := h.get i hi
  refine (spoil139 m hm hx.2.1 (Nat.zero_le _) (by have := hx.1; omega)).mono ?_
  rintro e w' ⟨e1, k⟩
  exact ⟨e1, (h.take t).t n hn (Kg.of k (fun i hi q => ⟨hx.2.2 i q.symm, not211 hx.2.1 (by decide) q.symm⟩)) ha⟩
theorem Sx.convM (h : Sx W0 w0 col0 c d a b obs o1 o2 w) (i : Nat) {v : Sv} {ys : List Int} {n : Nat} (hi : obs[i]? = some (oRm v ys n)) (hby : Byt ys) : (convert 74 9 (.slice v.a v.n v.c)).run Try.prog w = .ok (.string (bstr ys)) w := by
  obtain ⟨col, h⟩ := h
  exact conv_rd (Rom.rd (h.get i hi)) hby
theorem Sx.convO (h : Sx W0 w0 col0 c d a b obs o1 o2 w) (i : Nat) {v : Sv} {ys : List Int} {n : Nat} (hi : obs[i]? = some (oRo v ys n)) (hby : Byt ys) : (convert 74 9 (.slice v.a v.n v.c)).run Try.prog w = .ok (.string (bstr ys)) w := by
  obtain ⟨col, h⟩ := h
  exact conv_rd (Ro.rd (h.get i hi)) hby
theorem Sx.convB (h : Sx W0 w0 col0 c d a b obs o1 o2 w) {u : Value} {ys : List Int} (hu : Rd W0 u ys) (hby : Byt ys) : (convert 74 9 u).run Try.prog w = .ok (.string (bstr ys)) w := conv_rd (hu.nu h.base) hby
theorem Sx.byt (h : Sx W0 w0 col0 c d a b obs o1 o2 w) (k : Int) : Byt (oGt o1 k) ∧ (oGt o1 k).length ≤ 64 := by
  obtain ⟨col, h⟩ := h
  exact h.ps.byt k
theorem Sx.getP (h : Sx W0 w0 col0 c d a b obs o1 o2 w) (k : Int) (n : Nat) (hn : 5 ≤ n) :
    Calls Try.prog 46 #[a, .int .u64 k] w fun e w' => ∃ v : Sv, e = .returned (.tuple #[.slice v.a v.n v.c, .bool (oHs o1 k)]) ∧ Hid (Sx W0 w0 col0 c d a b (oRo v (oGt o1 k) n :: obs) o1 o2 w') := by
  obtain ⟨col, h⟩ := h
  refine (h.ps.get k).mono ?_
  rintro e w' ⟨v, e1, e2, k⟩
  exact ⟨v, e1, h.new k (Own.ro v _) (Ro.of e2) n hn⟩
theorem Sx.getD (h : Sx W0 w0 col0 c d a b obs o1 o2 w) (k : Int) (n : Nat) (hn : 5 ≤ n) :
    Calls Try.prog 140 #[b, .int .u64 k] w fun e w' => ∃ v : Sv, e = .returned (.tuple #[.slice v.a v.n v.c, .bool (oHs o2 k)]) ∧ Hid (Sx W0 w0 col0 c d a b (oRo v (oGt o2 k) n :: obs) o1 o2 w') := by
  obtain ⟨col, h⟩ := h
  refine (h.ds.get k).mono ?_
  rintro e w' ⟨v, e1, e2, k⟩
  exact ⟨v, e1, h.new k (Own.ro v _) (Ro.of e2) n hn⟩
theorem Sx.delP (h : Sx W0 w0 col0 c d a b obs o1 o2 w) (k : Int) :
    Calls Try.prog 130 #[a, .int .u64 k] w fun e w' => e = .returned (.bool (oHs o1 k)) ∧ Hid (Sx W0 w0 col0 c d a b obs (oCut o1 k k) o2 w') := by
  obtain ⟨col, h⟩ := h
  refine (h.ps.del k).mono ?_
  rintro e w' ⟨e1, e2⟩
  exact ⟨e1, h.p e2.out.1 e2.out.2⟩
theorem Sx.delD (h : Sx W0 w0 col0 c d a b obs o1 o2 w) (k : Int) (h5 : ∀ x ∈ obs, 5 ≤ x.2) :
    Calls Try.prog 141 #[b, .int .u64 k] w fun e w' => e = .returned (.bool (oHs o2 k)) ∧ Hid (Sx W0 w0 col0 c d a b obs o1 (oCut o2 k k) w') := by
  obtain ⟨col, h⟩ := h
  refine (h.ds.del k).mono ?_
  rintro e w' ⟨e1, e2⟩
  exact ⟨e1, h.dd e2.out.1 e2.out.2 h5⟩
theorem Sx.nthP (h : Sx W0 w0 col0 c d a b obs o1 o2 w) (lo hi i : Int) : Calls Try.prog 53 #[a, .int .u64 lo, .int .u64 hi, .int .i64 i] w fun e w' => e = .returned (.tuple #[.int .u64 (nthA o1 lo hi i).1, .bool (nthA o1 lo hi i).2]) ∧ Hid (Sx W0 w0 col0 c d a b obs o1 o2 w') := by
  obtain ⟨col, h⟩ := h
  exact (h.ps.nth lo hi i).mono fun e w' ⟨e1, k⟩ => ⟨e1, h.nu k⟩
theorem Sx.nthD (h : Sx W0 w0 col0 c d a b obs o1 o2 w) (lo hi i : Int) : Calls Try.prog 145 #[b, .int .u64 lo, .int .u64 hi, .int .i64 i] w fun e w' => e = .returned (.tuple #[.int .u64 (nthA o2 lo hi i).1, .bool (nthA o2 lo hi i).2]) ∧ Hid (Sx W0 w0 col0 c d a b obs o1 o2 w') := by
  obtain ⟨col, h⟩ := h
  exact (h.ds.nth lo hi i).mono fun e w' ⟨e1, k⟩ => ⟨e1, h.nu k⟩
theorem Sx.digP (h : Sx W0 w0 col0 c d a b obs o1 o2 w) (lo hi : Int) : Calls Try.prog 51 #[a, .int .u64 lo, .int .u64 hi] w fun e w' => e = .returned (.int .u64 (Cd.fv f0 (pbs (rg lo hi (oM o1))))) ∧ Hid (Sx W0 w0 col0 c d a b obs o1 o2 w') := by
  obtain ⟨col, h⟩ := h
  exact (h.ps.dig lo hi).mono fun e w' ⟨e1, k⟩ => ⟨e1, h.nu k⟩
theorem Sx.digD (h : Sx W0 w0 col0 c d a b obs o1 o2 w) (lo hi : Int) : Calls Try.prog 147 #[b, .int .u64 lo, .int .u64 hi] w fun e w' => e = .returned (.int .u64 (Cd.fv f0 (pbs (rg lo hi (oM o2))))) ∧ Hid (Sx W0 w0 col0 c d a b obs o1 o2 w') := by
  obtain ⟨col, h⟩ := h
  exact (h.ds.dig lo hi).mono fun e w' ⟨e1, k⟩ => ⟨e1, h.nu k⟩
theorem Sx.lenP (h : Sx W0 w0 col0 c d a b obs o1 o2 w) : Calls Try.prog 52 #[a] w fun e w' => e = .returned (.int .i64 ((oM o1).length : Int)) ∧ w' = w := by
  obtain ⟨col, h⟩ := h
  exact h.ps.len
theorem Sx.lenD (h : Sx W0 w0 col0 c d a b obs o1 o2 w) : Calls Try.prog 142 #[b] w fun e w' => e = .returned (.int .i64 ((oM o2).length : Int)) ∧ w' = w := by
  obtain ⟨col, h⟩ := h
  exact h.ds.len
theorem Sx.bytesP (h : Sx W0 w0 col0 c d a b obs o1 o2 w) : Calls Try.prog 65 #[a] w fun e w' => e = .returned (.int .i64 (sumB (oM o1) : Int)) ∧ w' = w := by
  obtain ⟨col, h⟩ := h
  exact h.ps.bytes
theorem Sx.bytesD (h : Sx W0 w0 col0 c d a b obs o1 o2 w) : Calls Try.prog 143 #[b] w fun e w' => e = .returned (.int .i64 (sumB (oM o2) : Int)) ∧ w' = w := by
  obtain ⟨col, h⟩ := h
  exact h.ds.bytes
theorem Sx.countP (h : Sx W0 w0 col0 c d a b obs o1 o2 w) (lo hi : Int) : Calls Try.prog 54 #[a, .int .u64 lo, .int .u64 hi] w fun e w' => e = .returned (.int .i64 ((rg lo hi (oM o1)).length : Int)) ∧ Hid (Sx W0 w0 col0 c d a b obs o1 o2 w') := by
  obtain ⟨col, h⟩ := h
  exact (h.ps.count lo hi).mono fun e w' ⟨e1, k⟩ => ⟨e1, h.nu k⟩
theorem Sx.countD (h : Sx W0 w0 col0 c d a b obs o1 o2 w) (lo hi : Int) : Calls Try.prog 144 #[b, .int .u64 lo, .int .u64 hi] w fun e w' => e = .returned (.int .i64 ((rg lo hi (oM o2)).length : Int)) ∧ Hid (Sx W0 w0 col0 c d a b obs o1 o2 w') := by
  obtain ⟨col, h⟩ := h
  exact (h.ds.count lo hi).mono fun e w' ⟨e1, k⟩ => ⟨e1, h.nu k⟩
theorem Sx.wpx (h : Sx W0 w0 col0 c d a b obs o1 o2 w) (k : Nx W0 c d a b w0 col0 w') : True := trivial
theorem Sx.call (h : Sx W0 w0 col0 c d a b obs o o w) {k : Prop} (hk : ∀ col, Bz W0 w col → Ps w a (Co col c) o → Ds w b (Co col d) o → (c ≠ 0 ∧ d ≠ 0 ∧ c < 5 ∧ d < 5 ∧ c ≠ d) → Ext c d w0 col0 w col → k) : k := by
  obtain ⟨col, h⟩ := h
  exact hk col h.bz h.ps h.ds h.nm h.fr
end
end Go.Proofs.Ytchealdgncgjoaa.StU
namespace Go.Proofs.Ytchealdgncgjoaa.StU
open Go.RowKit Go.Proofs.Ytchealdgncgjoaa.St Go.Shelf
set_option linter.unusedVariables false
set_option linter.unusedSimpArgs false
/-- what a value's bytes are in memory -/
structure Vl (P : World → Nat → Sv → List Int → Prop) : Prop where
  keep : ∀ {W W' : World} {B : Nat} {v : Sv} {ys : List Int}, P W B v ys → (∀ g, (sl v).ownBlock = some g → W'.heap[g]? = W.heap[g]?) → P W' B v ys
  lo : ∀ {W : World} {B : Nat} {v : Sv} {ys : List Int} {g : Nat}, P W B v ys → (sl v).ownBlock = some g → B ≤ g
  obj : ∀ {W : World} {B : Nat} {v : Sv} {ys : List Int} {g : Nat}, P W B v ys → (sl v).ownBlock = some g → ∃ cur, W.heap[g]? = some (.cells cur 5 (0, 0))
  low : ∀ {W : World} {B B' : Nat} {v : Sv} {ys : List Int}, P W B v ys → B' ≤ B → P W B' v ys
  rd : ∀ {W : World} {B : Nat} {v : Sv} {ys : List Int}, P W B v ys → Rd W (sl v) ys
def Rn (W : World) (B : Nat) (v : Sv) (ys : List Int) : Prop := v.n = ys.length ∧ W.ownsRow B 5 1 (sl v) v.n (cs ys)
theorem own_low {w : World} {B e size n : Nat} {v : Value} {xs : List Value} (h : w.ownsRow B e size v n xs) {g : Nat} (hg : v.ownBlock = some g) : B ≤ g := by
  rcases h.2 with ⟨e, h0⟩ | ⟨g', cap, cur, e, hb, _⟩
  · rw [e] at hg; cases hg
  · rw [e] at hg
    simp [Value.ownBlock] at hg
    subst hg; exact hb
theorem vl_rm : Vl Rm :=
  ⟨fun h k => ⟨h.1, own_keep h.2 (fun g hg => k g (own_n.1 hg))⟩, fun h hg => own_low h.2 (own_n.2 hg), fun h hg => own_obj h.2 (own_n.2 hg), fun h hb => ⟨h.1, own_base h.2 hb⟩, fun h => h.rd⟩
theorem vl_rn : Vl Rn :=
  ⟨fun h k => ⟨h.1, own_keep h.2 k⟩, fun h hg => own_low h.2 hg, fun h hg => own_obj h.2 hg, fun h hb => ⟨h.1, own_base h.2 hb⟩, fun h => by
    have h2 := h.2
    rw [h.1] at h2
    exact Rd.of_own h2⟩
/-- a row of pairs of one's own -/
structure Bi (P : World → Nat → Sv → List Int → Prop) (e : TypeId) (B : Nat) (W : World) (u : Sv) (L : List (Int × Sv)) (A : List KV) : Prop where
  own : W.ownsRow B e 2 (.slice u.a u.n u.c) u.n (pc L)
  f : F2 (fun p m => p.1 = m.1 ∧ P W B p.2 m.2) L A
  ap : L.Pairwise (fun p q => ∀ g, (sl p.2).ownBlock = some g → (sl q.2).ownBlock ≠ some g)
section
variable {P : World → Nat → Sv → List Int → Prop} {e : TypeId} {B : Nat} {V W W' w6 : World} {u u' : Sv} {L : List (Int × Sv)} {A : List KV}
theorem Bi.n (h : Bi P e B W u L A) : u.n = L.length := by have := h.own.1; rw [pc_length] at this; omega
theorem Bi.len (h : Bi P e B W u L A) : u.n = A.length := by rw [h.n, h.f.length]
theorem Bi.keep (vp : Vl P) (h : Bi P e B V u L A) {S : Nat → Prop} (k : Kp S V W) (hS : ∀ i c, S i → V.heap[i]? ≠ some (.cells c e (0, 0)) ∧ V.heap[i]? ≠ some (.cells c 5 (0, 0))) : Bi P e B W u L A :=
  ⟨own_keep h.own (fun g hg => k.block g (own_lt h.own hg) (fun hs => by
    obtain ⟨cur, hc⟩ := own_obj h.own hg
    exact (hS g cur hs).1 hc)), h.f.imp (fun p m hf => ⟨hf.1, vp.keep hf.2 (fun g hg => by
    obtain ⟨cur, hc⟩ := vp.obj hf.2 hg
    exact k.block g (blk_lt hc) (fun hs => (hS g cur hs).2 hc))⟩), h.ap⟩
theorem Bi.nu (vp : Vl P) (h : Bi P e B V u L A) (k : Kp Nu V W) : Bi P e B W u L A := h.keep vp k (fun i c hs => hs.elim)
theorem Bi.app (vp : Vl P) (he : e ≠ 5) (h : Bi P e B V u L A) (hB : B ≤ V.heap.size) (k : Kp Nu V W) {q : Sv} {ys : List Int} {k1 : Int} (hq : P W V.heap.size q ys)
    (hown : w6.ownsRow B e 2 (.slice u'.a u'.n u'.c) u'.n (pc L ++ [.int .u64 k1, sl q])) (hg : Kp (fun i => some i = (Value.slice u.a u.n u.c).ownBlock) W w6) : Bi P e B w6 u' (L ++ [(k1, q)]) (A ++ [(k1, ys)]) := by
  have hw := h.nu vp k
  have hS : ∀ i c, some i = (Value.slice u.a u.n u.c).ownBlock → W.heap[i]? ≠ some (.cells c 5 (0, 0)) := fun i c e1 hc => by
    obtain ⟨cur, h2⟩ := own_obj hw.own e1.symm
    rw [h2] at hc
    injection hc with hc
    injection hc with _ e2 _
    exact he e2
  have kv : ∀ {v : Sv} {zs : List Int} {b : Nat}, P W b v zs → P w6 b v zs := fun hp => vp.keep hp (fun g hgv => by
    obtain ⟨cur, hc⟩ := vp.obj hp hgv
    exact hg.block g (blk_lt hc) (fun e1 => hS g cur e1 hc))
  refine ⟨by rw [pc_snoc]; exact hown, F2.snoc (hw.f.imp (fun p m hf => ⟨hf.1, kv hf.2⟩)) ⟨rfl, vp.low (kv hq) hB⟩, ?_⟩
  refine List.pairwise_append.2 ⟨h.ap, List.pairwise_singleton _ _, fun p hp q' hq' g hg hg2 => ?_⟩
  rw [List.mem_singleton.1 hq'] at hg2
  obtain ⟨i, hi⟩ := List.mem_iff_getElem?.1 hp
  obtain ⟨m, _, hf⟩ := h.f.at hi
  obtain ⟨cur, hc⟩ := vp.obj hf.2 hg
  have h1 := blk_lt hc
  have h2 := vp.lo hq hg2
  omega
theorem Bi.nil (hB : B = B) : Bi P e B W ⟨none, 0, 0⟩ [] [] := ⟨⟨rfl, .inl ⟨rfl, rfl⟩⟩, trivial, List.Pairwise.nil⟩
end
end Go.Proofs.Ytchealdgncgjoaa.StU
