import Derived.Test.YtemmghneohnigaaDoorWpL
import Derived.Test.YtemmghneohnigaaDoorWuH
namespace Go.Proofs.YtemmghneohnigaaDoor
open Go.RowKit
/-! WireUnquotes. -/
theorem rd_none (w : World) (f : Nat → Value) : RdA w none 1 0 0 f := ⟨Nat.le_refl _, by unfold maxLen; omega, fun h => absurd h (by omega)⟩
set_option maxRecDepth 20000 in
set_option maxHeartbeats 1600000 in
theorem unquotes_law {w : World} {t : List Int} (ht : Byt t) (hl : t.length ≤ 35184372080000) (hE : Env w) : Calls Tryd.prog 4 #[.string (strOfNums t)] w fun e w' => e = .returned (.bool true) ∧ Below w.heap.size w w' := by
  have HE := hidd hE
  have hbig := hE.big
  have HUO := hidd (fun (w1 : World) (b : List Int) (h : UnqP t b) (hE1 : Errs w1) => unq_ok ht (by omega) h hE1)
  have HUB := hidd (fun (w1 : World) (h : ¬ ∃ b, UnqP t b) (hE1 : Errs w1) => unq_bad ht (by omega) h hE1)
  have HRO := hidd (fun (w1 : World) (b : List Int) (h : UnqP t b) => runq_ok ht (by omega) h w1)
  have HRB := hidd (fun (w1 : World) (h : ¬ ∃ b, UnqP t b) => runq_bad ht (by omega) h w1)
  clear hE
  generalize strOfNums t = s at *
  go_enter Tryd.func4, Tryd.ntmps4
  go_upto_region 2 with (go_at_call 8; with_reducible refine (works_any HE.out).mono ?_; rintro e w1 ⟨rfl, hf1⟩)
  have HE1 := hidd (HE.out.fresh hf1).errs
  have HF1 := hidd hf1
  clear hf1
  by_cases hu : ∃ b, UnqP t b
  · obtain ⟨b, hb⟩ := hu
    have HB := hidd hb
    clear hb
    obtain ⟨ll, ell⟩ : ∃ ll, ll = (lit b).length := ⟨_, rfl⟩
    have HU := hidd (HUO.out w1 b HB.out HE1.out)
    have HR := hidd (fun w2 => HRO.out w2 b HB.out)
    rw [← ell] at HU HR
    clear ell HUO HUB HRO HRB
    go_upto_region 4 with (first | (go_at_call 10; with_reducible refine (HU.out).mono ?_; rintro e w2 ⟨ao, cap, rfl, ho2, hf2⟩) | (go_at_call 13; with_reducible refine (HR.out _).mono ?_; rintro e w3 ⟨bo, cbp, rfl, ho3, hf3⟩))
    obtain ⟨_, _, e2, hr2⟩ := ho2.rd
    cases e2
    obtain ⟨_, _, e3, hr3⟩ := ho3.rd
    cases e3
    have HQ := hidd (eqBytes_same (hr2.fresh hf3) hr3 (fun i _ => rfl))
    have HF3 := hidd (fresh_trans HF1.out (fresh_trans hf2 hf3))
    clear ho2 hf2 ho3 hf3 hr2 hr3
    generalize b.length = bl at *
    go_upto_region 5 with (go_at_call 11; with_reducible refine (HQ.out).mono ?_; rintro e w4 ⟨rfl, hf4⟩)
    have HF4 := hidd (fresh_trans HF3.out hf4)
    clear hf4
    go_wp2
    go_ret
    exact ⟨rfl, HF4.out⟩
  · have HU := hidd (HUB.out w1 hu HE1.out)
    have HR := hidd (fun w2 => HRB.out w2 hu)
    clear HUO HUB HRO HRB
    go_upto_region 4 with (first | (go_at_call 10; with_reducible refine (HU.out).mono ?_; rintro e w2 ⟨rfl, hf2⟩) | (go_at_call 13; with_reducible refine (HR.out _).mono ?_; rintro e w3 ⟨rfl, hf3⟩))
    have HQ := hidd (eqBytes_same (f := fun _ => 0) (g := fun _ => 0) (rd_none w3 _) (rd_none w3 _) (fun i _ => rfl))
    have HF3 := hidd (fresh_trans HF1.out (fresh_trans hf2 hf3))
    clear hf2 hf3
    go_upto_region 5 with (go_at_call 11; with_reducible refine (HQ.out).mono ?_; rintro e w4 ⟨rfl, hf4⟩)
    have HF4 := hidd (fresh_trans HF3.out hf4)
    clear hf4
    go_wp2
    go_ret
    exact ⟨rfl, HF4.out⟩
end Go.Proofs.YtemmghneohnigaaDoor
namespace Go.Proofs.YtemmghneohnigaaDoor
open Go.RowKit
/-! WireHeads. -/
set_option maxRecDepth 20000 in
set_option maxHeartbeats 1600000 in
theorem ascii_any {t : List Int} (ht : ∀ x ∈ t, 32 ≤ x ∧ x ≤ 126) (hl : t.length ≤ 140737488351232) (w : World) : Calls Tryd.prog 12 #[.string (strOfNums t)] w fun e w' => e = .returned (.bool true) ∧ Below w.heap.size w w' := by
  have hB : Byt t := fun x hx => by have := ht x hx; omega
  obtain ⟨s, es⟩ : ∃ s, s = strOfNums t := ⟨_, rfl⟩
  have hsz : s.size = t.length := by rw [es]; exact strOfNums_size t
  obtain ⟨n, en⟩ : ∃ n, n = t.length := ⟨_, rfl⟩
  have HAT : Hid (∀ k, k < n → ∃ X : Nat, (∀ h, (s[k]'h).toNat = X) ∧ 32 ≤ X ∧ X ≤ 126) := fun k hk => by
    rw [en] at hk
    have h2 := ht (t.getD k 0) (by rw [List.getD_eq_getElem?_getD, List.getElem?_eq_getElem hk]; exact List.getElem_mem _)
    exact ⟨(t.getD k 0).toNat, fun h => by subst es; exact str_at hB hk h, by omega, by omega⟩
  rw [← es]
  rw [← en] at hl hsz
  clear es en hB ht
  go_enter Tryd.func12, Tryd.ntmps12
  go_wp2
  go_loopw [3] (fun i wr => ∃ k : Nat, k ≤ n ∧ i = .int .i64 k ∧ Below w.heap.size w wr) (fun i _ => n - (intOf i).toNat)
  case atStart => exact ⟨0, by omega, rfl, Below.refl _ _⟩
  case round =>
    obtain ⟨k, hk, rfl, hf⟩ := hrel
    have j0 : (0 : Int) ≤ (k : Int) := Int.natCast_nonneg _
    by_cases hlt : k < n
    · obtain ⟨X, hx, h1, h2⟩ := HAT.out k hlt
      have b1 : decide ((k : Int) < (n : Int)) = true := by simp; omega
      have b2 : decide ((X : Int) < 32) = false := by simp; omega
      have b3 : decide ((126 : Int) < (X : Int)) = false := by simp; omega
      have b4 : ¬ X < 32 := by omega
      have b5 : ¬ 126 < X := by omega
      go_wp2
      go_roundw
      case rel => exact ⟨k + 1, by omega, by go_num, hf⟩
      case measure => simp [intOf]; omega
    · obtain rfl : k = n := by omega
      go_wp2
      go_ret
      exact ⟨rfl, hf⟩
/-- cut short, it is none -/
theorem cut_none {b : List Int} (hb : Byt b) {K : Nat} (hK : K < (lit b).length) : ¬ ∃ b', UnqP ((lit b).take K) b' := by
  rintro ⟨b', h1, h2⟩
  have h3 : UnqP (lit b) b' := ⟨h1, h2.trans (List.take_prefix _ _)⟩
  have h4 : UnqP (lit b) b := ⟨hb, List.prefix_refl _⟩
  obtain rfl := h3.uniq h4
  have := h2.length_le
  rw [List.length_take] at this
  omega
end Go.Proofs.YtemmghneohnigaaDoor
