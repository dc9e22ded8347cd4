import Derived.Test.YtmcefgpejocjfaaDoorWCalls
namespace Go.Proofs.YtmcefgpejocjfaaDoor
open Go.ChangeShapes Go.WideShapes Go.ChangeAt Go.RowKit Go.Deep
theorem cells_at {w : World} {base : Nat} {a : Addr} {n : Nat} {l : List Value} (h : w.cells? base a n = some l) (j : Nat) (hj : j < n) : w.cell? (a.add j) = l[j]? := by
  unfold World.cells? at h
  split at h
  · have key : ∀ (is : List Nat) (l : List Value), is.mapM (fun i => w.cell? (a.add i)) = some l → ∀ k (hk : k < is.length), w.cell? (a.add is[k]) = l[k]? := by
      intro is
      induction is with
      | nil => intro l _ k hk; simp at hk
      | cons i r ih =>
        intro l h k hk
        simp only [List.mapM_cons, Option.bind_eq_bind, Option.bind_eq_some_iff, Option.pure_def, Option.some.injEq] at h
        obtain ⟨x, e0, t, e1, rfl⟩ := h
        cases k with
        | zero => simpa using e0
        | succ k => simpa using ih t e1 k (by simpa using hk)
    have := key _ _ h j (by simpa using hj)
    simpa using this
  · cases h
theorem add_in (b off k j : Nat) : ((⟨b, off, none⟩ : Addr).add k).add j = ⟨b, off + k + j, none⟩ := by
  unfold Addr.add
  split <;> split <;> simp_all
theorem plain_addr2 {w : World} {a : Addr} {v : Value} (h : w.cell? ((a.add (0 * 10)).add 0) = some v) : ∃ b off, a = ⟨b, off, none⟩ := by
  obtain ⟨b, off, sp⟩ := a
  cases sp with
  | none => exact ⟨b, off, rfl⟩
  | some x =>
    have e : (⟨b, off, some x⟩ : Addr).add 0 = ⟨b, off, some x⟩ := by unfold Addr.add; simp
    rw [Nat.zero_mul, e, e] at h
    unfold World.cell? at h
    split at h <;> simp at h
theorem opc_of {w : World} {base b off k : Nat} {o : OpD} (h : w.cells? base ((⟨b, off, none⟩ : Addr).add (k * 10)) 10 = some [.int .i64 o.kind, .int .i64 o.R, .int .i64 o.C, .slice o.dO o.nD o.cD, .slice o.aO o.nA o.cA, .slice o.bO o.nB o.cB, .slice o.xO o.nX o.cX, .slice o.vO o.nV o.cV, .slice o.tO o.nT o.cT, .int .i64 o.N]) : OpC w b (off + k * 10) o := by
  have q : ∀ j, j < 10 → w.cell? ⟨b, off + k * 10 + j, none⟩ = [.int .i64 o.kind, .int .i64 o.R, .int .i64 o.C, .slice o.dO o.nD o.cD, .slice o.aO o.nA o.cA, .slice o.bO o.nB o.cB, .slice o.xO o.nX o.cX, .slice o.vO o.nV o.cV, .slice o.tO o.nT o.cT, .int .i64 o.N][j]? := fun j hj => by rw [← cells_at h j hj, add_in]
  exact ⟨q 0 (by decide), q 1 (by decide), q 2 (by decide), q 3 (by decide), q 4 (by decide), q 5 (by decide), q 6 (by decide), q 7 (by decide), q 8 (by decide), q 9 (by decide)⟩
def opd0 : OpD := ⟨0, 0, 0, 0, none, 0, 0, fun _ => 0, none, 0, 0, fun _ => 0, none, 0, 0, fun _ => 0, none, 0, 0, fun _ => 0, none, 0, 0, fun _ => none, fun _ => 0, fun _ => 0, fun _ _ => 0, none, 0, 0, fun _ => 0, fun _ => 0⟩
theorem calls_walk {H : Type} {enc : TypeId × Value → H} {base : Nat} {held : Bool} {r : Reach} {b0 : Nat} {v0 : Value} {d0 : DataW H} {ps0 : List MemPlace} (W : World) (hw : Holds W)
    (hval0 : Value.okWide Tryd.prog W r b0 22 v0) (h0 : DataW.Trod enc Tryd.prog W base (fun _ => true) held 22 v0 d0 ps0) (hb : Rows.uptoBulkAll [d0] ≤ 1048576) :
    Calls Tryd.prog 3 #[v0] W fun e w' => e = .returned (.bool true) ∧ Below W.heap.size W w' := by
  obtain ⟨a0, l0, c0, rfl⟩ := okWide_slice Tryd.underlying22 hval0
  obtain ⟨fuel, hd⟩ := h0
  have hb0 : Rows.uptoBulk d0 ≤ 1048576 := by simp only [Rows.uptoBulkAll] at hb; omega
  rcases open_slice Tryd.underlying22 hd with ⟨hcs, _⟩ | ⟨a, len, cap, m, n, D, Pl, hcs, _, hl, hm, hmm, hx, hel⟩
  · simp [Value.cells] at hcs
    obtain ⟨rfl, rfl, rfl⟩ := hcs
    exact calls_law (os := fun _ => opd0) hw (by omega) (fun h => absurd h (by omega)) (fun k hk => absurd hk (by omega))
  · simp [Value.cells] at hcs
    obtain ⟨rfl, rfl, rfl⟩ := hcs
    have hlm : l0 ≤ m := by rw [hmm]; split <;> omega
    have hd0 : d0 = .slice ((List.range l0).map D) ((List.range (m - l0)).map fun j => D (l0 + j)) := congrArg Prod.fst hx
    rw [hd0] at hb0
    simp only [Rows.uptoBulk] at hb0
    have hlen := bulk_length ((List.range l0).map D)
    simp at hlen
    rw [nOp] at hel
    have key : ∀ i, ∃ o : OpD, i < l0 → W.cells? base (a.add (i * 10)) 10 = some [.int .i64 o.kind, .int .i64 o.R, .int .i64 o.C, .slice o.dO o.nD o.cD, .slice o.aO o.nA o.cA, .slice o.bO o.nB o.cB, .slice o.xO o.nX o.cX, .slice o.vO o.nV o.cV, .slice o.tO o.nT o.cT, .int .i64 o.N] ∧ OpR W o := fun i => by
      by_cases hi : i < l0
      · obtain ⟨cs', q0, q1⟩ := hel i (by omega)
        have hbi : Rows.uptoBulk (D i) ≤ 1048576 := by
          have := bulk_mem (d := D i) (l := (List.range l0).map D) (List.mem_map.2 ⟨i, by simpa using hi, rfl⟩)
          omega
        obtain ⟨o, rfl, hR⟩ := op_open q1 hbi
        exact ⟨o, fun _ => ⟨q0, hR⟩⟩
      · exact ⟨opd0, fun h => absurd h hi⟩
    obtain ⟨os, hos⟩ := Classical.axiomOfChoice key
    refine calls_law (os := os) hw (by omega) (fun hp => ?_) (fun k hk => (hos k hk).2)
    have h00 := cells_at (hos 0 hp).1 0 (by decide)
    obtain ⟨b, off, rfl⟩ := plain_addr2 (v := .int .i64 (os 0).kind) h00
    exact ⟨b, off, rfl, fun k hk => opc_of (hos k hk).1⟩
end Go.Proofs.YtmcefgpejocjfaaDoor
