import Derived.Test.YtjjfbpjejhjdiabDoorPkF
namespace Go.Proofs.YtjjfbpjejhjdiabDoor
open Go.RowKit
/-! What is told of the candidates; the table of the rules. -/
theorem infoCh : (Tryd.prog.info? 36).map (fun i => (i.zero, i.size, i.bytes)) = some (some (.agg #[.int .i64 0, .int .i64 0]), 2, 16) := by kernel_rfl
/-- a list of chances: token, weight -/
def ldP (L : List (Int × Int)) : Nat → Value := fun j => if j % 2 = 0 then .int .i64 (L.getD (j / 2) (0, 0)).1 else .int .i64 (L.getD (j / 2) (0, 0)).2
theorem ldP_at (L : List (Int × Int)) (k : Nat) : ldP L (k * 2) = .int .i64 (L.getD k (0, 0)).1 ∧ ldP L (k * 2 + 1) = .int .i64 (L.getD k (0, 0)).2 := by
  have e : (k * 2) % 2 = 0 ∧ (k * 2) / 2 = k ∧ (k * 2 + 1) % 2 = 1 ∧ (k * 2 + 1) / 2 = k := by omega
  unfold ldP
  rw [e.1, e.2.1, e.2.2.1, e.2.2.2]
  simp
def PL (w : World) (base : Nat) (u : Option Addr) (c : Nat) (L : List (Int × Int)) : Prop := Own w base 36 2 (.slice u L.length c) L.length (ldP L)
theorem PL.kept {w w' : World} {base c : Nat} {u : Option Addr} {L : List (Int × Int)} (h : PL w base u c L) (f : Below w.heap.size w w') : PL w' base u c L := Own.kept h f
theorem PL.weaken {w : World} {base base' c : Nat} {u : Option Addr} {L : List (Int × Int)} (h : PL w base u c L) (hb : base' ≤ base) : PL w base' u c L := Own.weaken h hb
theorem PL.cells {w : World} {base c : Nat} {u : Option Addr} {L : List (Int × Int)} (h : PL w base u c L) (hn : 0 < L.length) : ∃ g, u = some ⟨g, 0, none⟩ ∧ base ≤ g ∧ g < w.heap.size ∧ (∀ k, k < L.length → w.cell? ⟨g, k * 2, none⟩ = some (.int .i64 (L.getD k (0, 0)).1) ∧ w.cell? ⟨g, k * 2 + 1, none⟩ = some (.int .i64 (L.getD k (0, 0)).2)) ∧ (∀ j, w.frozen? ⟨g, j, none⟩ = false) := by
  obtain ⟨g, rfl, h1, h2, h3, h4⟩ := Own.at_ h hn
  refine ⟨g, rfl, h1, h2, fun k hk => ?_, h4⟩
  obtain ⟨e0, e1⟩ := ldP_at L k
  rw [← e0, ← e1]
  exact ⟨h3 _ (by omega), h3 _ (by omega)⟩
set_option maxRecDepth 20000 in
set_option maxHeartbeats 1600000 in
theorem outs_any {w : World} {base c : Nat} {u : Option Addr} {A : List (Int × Int)} {wf : Nat → Int} (h : CL w base u c A wf) (hn : A.length ≤ 1048576) :
    Calls Tryd.prog 26 #[.slice u A.length c] w fun e w' => ∃ v c', e = .returned (.slice v (lst A wf).length c') ∧ PL w' w.heap.size v c' (lst A wf) ∧ Below w.heap.size w w' := by
  have hles := Own.les h
  have HC := hidd h
  have hlen := lst_len A wf
  have HL : Hid (∀ k, k < A.length → ldP (lst A wf) (k * 2) = .int .i64 (A.getD k (0, 0)).1 ∧ ldP (lst A wf) (k * 2 + 1) = .int .i64 (wf k)) := fun k hk => by
    obtain ⟨e0, e1⟩ := ldP_at (lst A wf) k
    rw [e0, e1, lst_get hk]
    exact ⟨rfl, rfl⟩
  clear h
  unfold PL
  rw [hlen]
  generalize ldP (lst A wf) = cs at *
  clear hlen
  go_enter Tryd.func26, Tryd.ntmps26
  go_wp2
  go_loopw [3, 8] (fun v i wr => ∃ k : Nat, k ≤ A.length ∧ i = .int .i64 (k : Int) ∧ Own wr w.heap.size 36 2 v k cs ∧ Below w.heap.size w wr) (fun _ i _ => A.length - (intOf i).toNat)
  case atStart => exact ⟨0, Nat.zero_le _, by simp, own_nil _ _ _ _ _, Below.refl _ _⟩
  case round =>
    obtain ⟨k, hk, rfl, ho, hw⟩ := hrel
    have hsz := hw.size
    obtain ⟨v', c', rfl, hrd⟩ := ho.rd
    by_cases hlt : k < A.length
    · obtain ⟨g, rfl, g1, g2, g3, g4⟩ := CL.cells (HC.out.kept hw) (by omega)
      obtain ⟨d0, d1, d2⟩ := g3 k hlt
      obtain ⟨q0, q1⟩ := HL.out k hlt
      clear g3 g4
      generalize (A.getD k (0, 0)).1 = tk at *
      generalize (A.getD k (0, 0)).2 = sk at *
      generalize wf k = wk at *
      have i0 : (0 : Int) ≤ (k : Int) := by omega
      have i1 : (k : Int) < (A.length : Int) := by omega
      have HO := hidd ho
      have HX : Hid (∀ j, j < 1 * 2 → ((wr.alloc (.cells #[.int .i64 tk, .int .i64 sk, .int .i64 wk] 70)).alloc (.cells #[.int .i64 tk, .int .i64 wk] 36)).cell? ⟨wr.heap.size + 1, j, none⟩ = some (cs (k * 2 + j))) := fun j hj => by
        match j, hj with
        | 0, _ => show _ = some (cs (k * 2)); rw [q0]; simp
        | 1, _ => rw [q1]; simp
      have HONE : Hid (∀ j, j < 1 * 2 → (cs (k * 2 + j)).oneCell' = true) := fun j hj => by
        match j, hj with
        | 0, _ => show (cs (k * 2)).oneCell' = true; rw [q0]; rfl
        | 1, _ => rw [q1]; rfl
      have HO3 := hidd ((ho.kept (fresh_alloc wr (.cells #[.int .i64 tk, .int .i64 sk, .int .i64 wk] 70))).kept (fresh_alloc _ (.cells #[.int .i64 tk, .int .i64 wk] 36)))
      clear ho q0 q1
      go_wp2_with (at_builtin; refine wpList_app _ rfl _ _ 29 rfl w.heap.size 36 (.agg #[.int .i64 0, .int .i64 0]) 2 16 Tryd.underlying29 infoCh rfl (by decide) _ k cs rfl HO3.out _ 1 1 rfl HX.out HONE.out (by decide) (by unfold maxLen; omega) (by omega) (by simp; omega) ?_)
      intro v9 w9 ho9 happ
      have hb9 := happ.below ((hw.alloc hsz (.cells #[.int .i64 tk, .int .i64 sk, .int .i64 wk] 70)).alloc (by simp; omega) (.cells #[.int .i64 tk, .int .i64 wk] 36)) HO3.out (Nat.le_refl _) (by simp; omega)
      go_wp2
      go_roundw
      case rel => exact ⟨k + 1, by omega, by go_num, ho9, hb9⟩
      case measure => simp [intOf]; omega
    · obtain rfl : k = A.length := by omega
      go_wp2
      go_ret
      exact ⟨_, _, rfl, ho, hw⟩
end Go.Proofs.YtjjfbpjejhjdiabDoor
