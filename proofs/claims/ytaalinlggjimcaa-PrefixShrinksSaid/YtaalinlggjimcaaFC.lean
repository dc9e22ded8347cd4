import Derived.Test.YtaalinlggjimcaaFB
namespace Go.Proofs.Ytaalinlggjimcaa
open Go.RowKit
/-- texts that were kept, in memory -/
structure TxAt (w : World) (Ao : Nat → Option Addr) (Ln Cp : Nat → Nat) (T : Nat → Nat → Int) (r : Nat) : Prop where
  rd : ∀ i, i < r → RdA w (Ao i) 1 (Ln i) (Cp i) (fun j => .int .i64 (T i j))
theorem TxAt.fresh {w w' : World} {Ao : Nat → Option Addr} {Ln Cp : Nat → Nat} {T : Nat → Nat → Int} {r : Nat} (h : TxAt w Ao Ln Cp T r) (f : Below w.heap.size w w') : TxAt w' Ao Ln Cp T r := ⟨fun i hi => (h.rd i hi).fresh f⟩
set_option maxRecDepth 20000 in
set_option maxHeartbeats 1600000 in
theorem lawLongest {w : World} {ko : Option Addr} {r kc : Nat} {Ao : Nat → Option Addr} {Ln Cp : Nat → Nat} {T : Nat → Nat → Int} (hk : RdA w ko 1 r kc (fun i => .slice (Ao i) (Ln i) (Cp i))) (ht : TxAt w Ao Ln Cp T r) {to : Option Addr} {m cap : Nat} {t : Nat → Int} (hx : RdA w to 1 m cap (fun j => .int .i64 (t j))) {S : Nat} (hS : 1 ≤ S ∧ S ≤ 16) :
    Calls Try.prog 20 #[.slice ko r kc, .slice to m cap, .int .i64 (S : Int)] w fun e w' => (∃ best : Nat, e = .returned (.int .i64 (best : Int)) ∧ Best S T Ln r t m best) ∧ Below w.heap.size w w' := by
  obtain ⟨hS1, hS2⟩ := hS
  have hr : r ≤ 9223372036854775807 := by have := hk.le; have := hk.top; unfold maxLen at this; omega
  have hz : ¬ (S : Int) = 0 := by omega
  have hm : m ≤ 9223372036854775807 := by have := hx.le; have := hx.top; unfold maxLen at this; omega
  go_enter Try.func20, Try.ntmps20
  go_wp2
  go_loopw [7, 8, 9] (fun vb vi _ wr => ∃ best i : Nat, i ≤ r ∧ best ≤ 9223372036854775807 ∧ vb = .int .i64 (best : Int) ∧ vi = .int .i64 (i : Int) ∧ Hid (Best S T Ln i t m best) ∧ Below w.heap.size w wr) (fun _ vi _ _ => r - (intOf vi).toNat)
  case atStart => exact ⟨0, 0, by omega, by omega, rfl, rfl, best_zero _ _ _ _ _, Below.refl _ _⟩
  case round =>
    obtain ⟨best, i, hi, hbb, rfl, rfl, HB, hf⟩ := hrel
    by_cases hlt : i < r
    · obtain ⟨b, off, rfl, hc⟩ := (hk.fresh hf).one (by omega)
      have d := hc i hlt
      have HC := hidd (common_any ((ht.rd i hlt).fresh hf) (hx.fresh hf))
      have i0 : (0 : Int) ≤ (i : Int) := by omega
      have i1 : (i : Int) < (r : Int) := by omega
      clear hc hi
      go_wp2_with (go_at_call 49; with_reducible refine HC.out.mono ?_; rintro e w5 ⟨⟨k, rfl, hcm⟩, f5⟩; have hkm := hcm.le2; have hcd := hcm.div ⟨hS1, hS2⟩; have hkd : k / S ≤ k := Nat.div_le_self _ _; have hq : ((k : Int).tdiv (S : Int)) = ((k / S : Nat) : Int) := (by rw [Int.tdiv_eq_ediv_of_nonneg (by omega)]; push_cast; rfl); generalize k / S = q at hq hkd hcd; have HCM := hidd hcd; clear hcm hcd)
      all_goals
        go_roundw
        case rel =>
          have hst := HB.out.step HCM.out
          have hf5 := hf.trans (f5.mono hf.size)
          first
            | (rw [if_pos (by omega)] at hst; exact ⟨q, i + 1, by omega, by omega, rfl, by go_num, hst, hf5⟩)
            | (rw [if_neg (by omega)] at hst; exact ⟨best, i + 1, by omega, by omega, rfl, by go_num, hst, hf5⟩)
        case measure => simp [intOf]; omega
    · obtain rfl : r = i := by omega
      go_wp2
      go_ret
      exact ⟨⟨best, rfl, HB.out⟩, hf⟩
set_option maxRecDepth 20000 in
set_option maxHeartbeats 1600000 in
theorem owner_any {w : World} {ko fo : Option Addr} {r kc fc : Nat} {Ao Bo : Nat → Option Addr} {Ln Cp Bn Bc : Nat → Nat} {T : Nat → Nat → Int} {G : Nat → Nat → Nat} (hk : RdA w ko 1 r kc (fun i => .slice (Ao i) (Ln i) (Cp i))) (ht : TxAt w Ao Ln Cp T r) (hb : RdA w fo 1 r fc (fun i => .slice (Bo i) (Bn i) (Bc i))) (hg : TxAt w Bo Bn Bc (fun i j => (G i j : Int)) r)
    {to : Option Addr} {m cap : Nat} {t : Nat → Int} (hx : RdA w to 1 m cap (fun j => .int .i64 (t j))) {S k i0 : Nat} (hS : 1 ≤ S ∧ S ≤ 16) (hk2 : k ≤ 256) (hi0 : i0 < r) (hkb : k < Bn i0) (h1 : Alike S (T i0) t (Ln i0) m (k + 1)) (h2 : ∀ i, i < i0 → ¬ Alike S (T i) t (Ln i) m (k + 1)) :
    Calls Try.prog 22 #[.slice ko r kc, .slice fo r fc, .slice to m cap, .int .i64 (k : Int), .int .i64 (S : Int)] w fun e w' => e = .returned (.int .i64 (G i0 k : Int)) ∧ Below w.heap.size w w' := by
  obtain ⟨hS1, hS2⟩ := hS
  have hr : r ≤ 9223372036854775807 := by have := hk.le; have := hk.top; unfold maxLen at this; omega
  obtain ⟨P, hP⟩ : ∃ P, P = (k + 1) * S := ⟨_, rfl⟩
  have hP2 : P ≤ 257 * 16 := by rw [hP]; exact Nat.mul_le_mul (by omega) hS2
  have eP : ((k : Int) + 1) * (S : Int) = (P : Int) := by rw [hP]; push_cast; rfl
  have HP := hidd hP
  have H12 := hidd (And.intro h1 h2)
  clear hP h1 h2
  go_enter Try.func22, Try.ntmps22
  go_wp2
  go_loopw [11] (fun vi wr => ∃ i : Nat, i ≤ i0 ∧ vi = .int .i64 (i : Int) ∧ Below w.heap.size w wr) (fun vi _ => r - (intOf vi).toNat)
  case atStart => exact ⟨0, by omega, rfl, Below.refl _ _⟩
  case round =>
    obtain ⟨i, hi, rfl, hf⟩ := hrel
    have hlt : i < r := by omega
    obtain ⟨b, off, rfl, hc⟩ := (hk.fresh hf).one (by omega)
    have d := hc i hlt
    have HC := hidd (common_any ((ht.rd i hlt).fresh hf) (hx.fresh hf))
    have q0 : (0 : Int) ≤ (i : Int) := by omega
    have q1 : (i : Int) < (r : Int) := by omega
    clear hc
    by_cases e0 : i = i0
    · subst e0
      have HB : Hid (∀ Z, Below w.heap.size w Z → ∃ b2 o2 b3 o3, fo = some ⟨b2, o2, none⟩ ∧ Bo i = some ⟨b3, o3, none⟩ ∧ Z.cell? ⟨b2, o2 + i, none⟩ = some (.slice (Bo i) (Bn i) (Bc i)) ∧ Z.cell? ⟨b3, o3 + k, none⟩ = some (.int .i64 (G i k : Int))) := fun Z hZ => by
        obtain ⟨b2, o2, e2, c2⟩ := (hb.fresh hZ).one (by omega)
        obtain ⟨b3, o3, e3, c3⟩ := ((hg.rd i hlt).fresh hZ).one (by omega)
        exact ⟨b2, o2, b3, o3, e2, e3, c2 i hlt, c3 k hkb⟩
      have k0 : (0 : Int) ≤ (k : Int) := by omega
      have k1 : (k : Int) < (Bn i : Int) := by omega
      go_wp2_with (go_at_call 49; with_reducible refine HC.out.mono ?_; rintro e w5 ⟨⟨km, rfl, hcm⟩, f5⟩; have hge : (P : Int) ≤ (km : Int) := (by have := (hcm.blocks ⟨hS1, hS2⟩ (k + 1)).2 H12.out.1; rw [← HP.out] at this; omega); clear hcm; obtain ⟨b2, o2, b3, o3, e2, e3, d2, d3⟩ := HB.out w5 (hf.trans (f5.mono hf.size)); rw [e3] at d2; rw [e2])
      go_ret
      exact ⟨rfl, hf.trans (f5.mono hf.size)⟩
    · go_wp2_with (go_at_call 49; go_loud (with_reducible refine HC.out.mono ?_; rintro e w5 ⟨⟨km, rfl, hcm⟩, f5⟩; have hii : i < i0 := (by omega); have hnb : ¬ P ≤ km := (by rw [HP.out]; exact fun e1 => absurd ((hcm.blocks ⟨hS1, hS2⟩ (k + 1)).1 e1) (H12.out.2 i hii)); have hge : ¬ (P : Int) ≤ (km : Int) := (by omega); clear hcm))
      go_roundw
      case rel => exact ⟨i + 1, by omega, by go_num, hf.trans (f5.mono hf.size)⟩
      case measure => simp [intOf]; omega
end Go.Proofs.Ytaalinlggjimcaa
