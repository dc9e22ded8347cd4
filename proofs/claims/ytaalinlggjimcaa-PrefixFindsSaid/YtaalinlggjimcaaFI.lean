import Derived.Test.YtaalinlggjimcaaFH
namespace Go.Proofs.Ytaalinlggjimcaa
open Go.RowKit
/-! PrefixFinds: the walk. -/
theorem lng_no {n : Nat} (w : World) (h : n ≤ 2147483647) : Calls Try.prog 15 #[.int .i64 n] w fun e w' => e = .returned (.bool false) ∧ w' = w := by
  go_enter Try.func15, Try.ntmps15
  go_wp2
  go_ret
  exact ⟨by simp; omega, rfl⟩
theorem lng_yes {n : Nat} (w : World) (h : 2147483647 < n) (_h2 : n ≤ 9223372036854775807) : Calls Try.prog 15 #[.int .i64 n] w fun e w' => e = .returned (.bool true) ∧ w' = w := by
  go_enter Try.func15, Try.ntmps15
  go_wp2
  go_ret
  exact ⟨by simp; omega, rfl⟩
def txc (AO : Nat → Option Addr) (LN CP : Nat → Nat) (Q : Nat → Bool) : Nat → Value := fun j => if j % 2 = 0 then .slice (AO (j / 2)) (LN (j / 2)) (CP (j / 2)) else .bool (Q (j / 2))
theorem tx_cells {w w' : World} {bo : Option Addr} {m cap : Nat} {AO : Nat → Option Addr} {LN CP : Nat → Nat} {Q : Nat → Bool} (hr : RdA w bo 2 m cap (txc AO LN CP Q)) (f : Below w.heap.size w w') (hm : 0 < m) : ∃ b off, bo = some ⟨b, off, none⟩ ∧ ∀ i, i < m → w'.cell? ⟨b, off + i * 2, none⟩ = some (.slice (AO i) (LN i) (CP i)) ∧ w'.cell? ⟨b, off + i * 2 + 1, none⟩ = some (.bool (Q i)) := by
  obtain ⟨b, off, rfl, hc⟩ := (hr.fresh f).at_ hm
  refine ⟨b, off, rfl, fun i hi => ⟨?_, ?_⟩⟩
  · rw [hc (i * 2) (by omega)]
    unfold txc
    rw [if_pos (by omega), show i * 2 / 2 = i by omega]
  · rw [show off + i * 2 + 1 = off + (i * 2 + 1) by omega, hc (i * 2 + 1) (by omega)]
    unfold txc
    rw [if_neg (by omega), show (i * 2 + 1) / 2 = i by omega]
theorem infoSI : (Try.prog.info? 22).map (fun i => (i.zero, i.size, i.bytes)) = some (some (.slice none 0 0), 1, 24) := by kernel_rfl
/-- where a round begins -/
structure Fr (w0 w : World) (c : Ca) (A : Nat → Prop) (L : List Nd) (N cb nb S : Nat) (cnt : Nat → Nat) (num : Nat → Int) (vK vF : Value) (r m : Nat) (ix : Nat → Nat) (Bv : Nat → Value) (G : Nat → Nat → Nat) (AO : Nat → Option Addr) (LN CP : Nat → Nat) (TT : Nat → Nat → Int) : Prop where
  fm : Fm w0 w c A L N cb nb S cnt num vK vF r (fun i => .slice (AO (ix i)) (LN (ix i)) (CP (ix i))) Bv (fun i => LN (ix i)) G
  kp : Kp L S (fun i => TT (ix i)) (fun i => LN (ix i)) G r
  ct : Ct c.B cnt L
  ixm : ∀ i, i < r → ix i < m
theorem fr_new {w0 w : World} {S : Nat} {g cb nb : Nat} (m : Nat) (AO : Nat → Option Addr) (LN CP : Nat → Nat) (TT : Nat → Nat → Int) (h : PoolAt w g cb nb 1 1 256 S (fun _ => 0) (fun _ => 0)) (h1 : w0.heap.size ≤ cb) (h2 : w0.heap.size ≤ nb) (hl : Below w0.heap.size w0 w) :
    Calls Try.prog 10 #[.pointer (some ⟨g, 0, none⟩)] w fun e w' => ∃ c A, e = .returned (.pointer (some ⟨c.C, 0, none⟩)) ∧ c.pg = g ∧ Fr w0 w' c A [] 0 cb nb S (fun _ => 0) (fun _ => 0) (.slice none 0 0) (.slice none 0 0) 0 m (fun _ => 0) (fun _ => .slice none 0 0) (fun _ _ => 0) AO LN CP TT := by
  refine (pnew_any h).mono ?_
  rintro e w' ⟨c, A, rfl, hp, hS, hB, hC, hA, hf⟩
  have hlt : ∀ z, z < w.heap.size → ¬ A z := fun z hz e => by have := hA z e; omega
  have hs := hl.size
  refine ⟨c, A, rfl, hp, ⟨⟨hC, by rw [hp, hB]; exact h.fresh hf, hS, hB, by rw [hp]; exact hlt _ h.row.lt, hlt _ h.cnts.lt, hlt _ h.nums.lt, fun z hz => Nat.le_trans hs (hA z hz), h1, h2, ⟨own_nil _ _ _ _ _, own_nil _ _ _ _ _, fun i hi => absurd hi (by omega), fun z hz => by simp [Value.ownBlock] at hz, fun z hz => by simp [Value.ownBlock] at hz, fun i hi => absurd hi (by omega), off_nil _, fun i hi => absurd hi (by omega), fun i hi => absurd hi (by omega)⟩, hl.trans (hf.mono hs)⟩, kp_nil _ _ _ _, fun b hb => .inr ⟨rfl, fun x hx => (by cases hx)⟩, fun i hi => absurd hi (by omega)⟩⟩
theorem fr_longest {w0 w : World} {c : Ca} {A : Nat → Prop} {L : List Nd} {N cb nb S : Nat} {cnt : Nat → Nat} {num : Nat → Int} {vK vF : Value} {r m : Nat} {ix : Nat → Nat} {Bv : Nat → Value} {G : Nat → Nat → Nat} {AO : Nat → Option Addr} {LN CP : Nat → Nat} {TT : Nat → Nat → Int} (h : Fr w0 w c A L N cb nb S cnt num vK vF r m ix Bv G AO LN CP TT) (htx : TxAt w0 AO LN CP TT m) {i : Nat} (hi : i < m) (hS : 1 ≤ S ∧ S ≤ 16) :
    Calls Try.prog 20 #[vK, .slice (AO i) (LN i) (CP i), .int .i64 (S : Int)] w fun e w' => (∃ best : Nat, e = .returned (.int .i64 (best : Int)) ∧ Best S (fun i => TT (ix i)) (fun i => LN (ix i)) r (TT i) (LN i) best) ∧ Below w.heap.size w w' := by
  obtain ⟨ko, kc, rfl, hk⟩ := h.fm.ls.kown.rd
  exact lawLongest (Ao := fun i => AO (ix i)) (Cp := fun i => CP (ix i)) hk ⟨fun j hj => (htx.rd (ix j) (h.ixm j hj)).fresh h.fm.low⟩ ((htx.rd i hi).fresh h.fm.low) hS
/-- what Find answered, block by block -/
def Told (S : Nat) (c : Ca) (cnt : Nat → Nat) (T : Nat → Nat → Int) (Ln : Nat → Nat) (G : Nat → Nat → Nat) (r : Nat) (t : Nat → Int) (n k : Nat) (X : Nat → Nat) : Prop := ∀ j, j < k → X j < c.B ∧ cnt (X j) = 1 ∧ ∃ i0, i0 < r ∧ Alike S (T i0) t (Ln i0) n (j + 1) ∧ (∀ i, i < i0 → ¬ Alike S (T i) t (Ln i) n (j + 1)) ∧ X j = G i0 j
theorem fr_find {w0 w : World} {c : Ca} {A : Nat → Prop} {L : List Nd} {N cb nb S : Nat} {cnt : Nat → Nat} {num : Nat → Int} {vK vF : Value} {r m : Nat} {ix : Nat → Nat} {Bv : Nat → Value} {G : Nat → Nat → Nat} {AO : Nat → Option Addr} {LN CP : Nat → Nat} {TT : Nat → Nat → Int} (h : Fr w0 w c A L N cb nb S cnt num vK vF r m ix Bv G AO LN CP TT) (hN : N ≤ 4611686018427387904) {to : Option Addr} {n cap : Nat} {t : Nat → Int} (ht : RdA w to 1 n cap (fun i => .int .i64 (t i))) (hfit : ∀ i, i < n → fits (t i)) {best : Nat} (hb : Best S (fun i => TT (ix i)) (fun i => LN (ix i)) r t n best) :
    Calls Try.prog 11 #[.pointer (some ⟨c.C, 0, none⟩), .slice to n cap] w fun e w' => ∃ g X L' b o, e = .returned (.slice (some ⟨g, 0, none⟩) best best) ∧ best ≤ 256 ∧ w'.rowIs g 3 best (fun j => .int .i64 (X j : Nat)) ∧ Told S c cnt (fun i => TT (ix i)) (fun i => LN (ix i)) G r t n best X ∧ Long c.C L' (pcL t S (n / S)) best b o ∧ Fr w0 w' c A L' (N + 1) cb nb S cnt num vK vF r m ix Bv G AO LN CP TT := by
  refine (fm_find h.fm hN ht hfit).mono ?_
  rintro e w' ⟨k, b, o, g, F, L', rfl, hl, hk, hr, hF, ⟨f, hf, rfl⟩, hfm⟩
  obtain rfl := h.kp.best hb hl
  have hw := h.fm.cache.well
  have key : ∀ j, ∃ x : Nat, j < best → F j = .int .i64 (x : Int) ∧ x < c.B ∧ cnt x = 1 ∧ ∃ i0, i0 < r ∧ Alike S (TT (ix i0)) t (LN (ix i0)) n (j + 1) ∧ (∀ i, i < i0 → ¬ Alike S (TT (ix i)) t (LN (ix i)) n (j + 1)) ∧ x = G i0 j := fun j => by
    by_cases hj : j < best
    · obtain ⟨x, hx, ex, i0, q1, q2, q3, q4⟩ := h.kp.owner hw hl hj
      exact ⟨x.blk, fun _ => ⟨hF j hj x hx ex, hw.blk x hx, h.ct.one hx (hw.blk x hx), i0, q1, q2, q3, q4⟩⟩
    · exact ⟨0, fun e => absurd e hj⟩
  obtain ⟨X, hX⟩ := Classical.axiomOfChoice key
  exact ⟨g, X, _, b, o, rfl, hk, hr.congr (fun j hj => (hX j hj).1), fun j hj => (hX j hj).2, hl.same hf, ⟨hfm, h.kp.same hf, h.ct.same hf, h.ixm⟩⟩
theorem fr_owner {w0 w : World} {c : Ca} {A : Nat → Prop} {L : List Nd} {N cb nb S : Nat} {cnt : Nat → Nat} {num : Nat → Int} {vK vF : Value} {r m : Nat} {ix : Nat → Nat} {Bv : Nat → Value} {G : Nat → Nat → Nat} {AO : Nat → Option Addr} {LN CP : Nat → Nat} {TT : Nat → Nat → Int} (h : Fr w0 w c A L N cb nb S cnt num vK vF r m ix Bv G AO LN CP TT) (htx : TxAt w0 AO LN CP TT m) {i : Nat} (hi : i < m) (hS : 1 ≤ S ∧ S ≤ 16) {k j : Nat} {X : Nat → Nat} (hT : Told S c cnt (fun i => TT (ix i)) (fun i => LN (ix i)) G r (TT i) (LN i) k X) (hj : j < k) (hk : k ≤ 256) :
    Calls Try.prog 22 #[vK, vF, .slice (AO i) (LN i) (CP i), .int .i64 (j : Int), .int .i64 (S : Int)] w fun e w' => e = .returned (.int .i64 (X j : Nat)) ∧ Below w.heap.size w w' := by
  obtain ⟨ko, kc, rfl, hK⟩ := h.fm.ls.kown.rd
  obtain ⟨fo, fc, rfl, hF⟩ := h.fm.ls.fown.rd
  obtain ⟨_, _, i0, q1, q2, q3, q4⟩ := hT j hj
  have key : ∀ i, ∃ y : Option Addr × Nat, i < r → Bv i = .slice y.1 (LN (ix i) / S) y.2 ∧ RdA w y.1 1 (LN (ix i) / S) y.2 (fun j => .int .i64 (G i j : Int)) := fun i => by
    by_cases hi : i < r
    · obtain ⟨ao, cap, e, hr⟩ := (h.fm.ls.bown i hi).rd
      exact ⟨(ao, cap), fun _ => ⟨e, hr⟩⟩
    · exact ⟨(none, 0), fun e => absurd e hi⟩
  obtain ⟨Y, hY⟩ := Classical.axiomOfChoice key
  rw [q4]
  exact owner_any (Ao := fun i => AO (ix i)) (Cp := fun i => CP (ix i)) (Bo := fun i => (Y i).1) (Bn := fun i => LN (ix i) / S) (Bc := fun i => (Y i).2) hK ⟨fun j hj => (htx.rd (ix j) (h.ixm j hj)).fresh h.fm.low⟩ (hF.congr (fun i hi => (hY i (by omega)).1)) ⟨fun i hi => (hY i hi).2⟩ ((htx.rd i hi).fresh h.fm.low) hS (by omega) q1 (by have : j + 1 ≤ LN (ix i0) / S := q2.1; show j < LN (ix i0) / S; omega) q2 q3
end Go.Proofs.Ytaalinlggjimcaa
