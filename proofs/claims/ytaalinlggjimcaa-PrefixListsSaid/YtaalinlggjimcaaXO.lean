import Derived.Test.YtaalinlggjimcaaXN
namespace Go.Proofs.Ytaalinlggjimcaa
open Go.RowKit
/-! DeleteFunc. -/
theorem infoPN0 : (Try.prog.info? 76).map (fun i => (i.zero, i.size, i.bytes)) = some (some nilP, 1, 8) := by kernel_rfl
theorem zeroPN : ∀ w, (zeroValue 76).run Try.prog w = .ok nilP w := fun w => by
  obtain ⟨i, hi, z0, z1, z2⟩ := info_parts infoPN0
  simp [zeroValue, typeInfo, hi, z0]
/-- one struck out -/
def shF (F : Nat → Value) (k j : Nat) : Nat → Value := fun t => if k ≤ t ∧ t + 1 < j then F (t + 1) else F t
theorem filt_get {α : Type} [DecidableEq α] {x : α} : ∀ (ys : List α) (k : Nat), ys[k]? = some x → ys.Nodup → ∀ t, (ys.filter (fun y => decide (y ≠ x)))[t]? = if t < k then ys[t]? else ys[t + 1]?
  | [], _, h, _, _ => by cases h
  | y :: r, 0, h, hn, t => by
    simp at h
    subst h
    obtain ⟨h1, _⟩ := List.nodup_cons.1 hn
    rw [List.filter_cons_of_neg (by simp), List.filter_eq_self.2 (fun z hz => by simp; intro e; exact h1 (e ▸ hz))]
    simp
  | y :: r, k + 1, h, hn, t => by
    obtain ⟨h1, h2⟩ := List.nodup_cons.1 hn
    simp at h
    have hy : y ≠ x := fun e => h1 (e ▸ List.mem_of_getElem? h)
    rw [List.filter_cons_of_pos (by simpa using hy)]
    cases t with
    | zero => simp
    | succ t =>
      have := filt_get r k h h2 t
      simp only [List.getElem?_cons_succ, this]
      by_cases e : t < k
      · rw [if_pos e, if_pos (by omega)]
      · rw [if_neg e, if_neg (by omega)]
set_option maxRecDepth 20000 in
set_option maxHeartbeats 3200000 in
theorem delFunc_any {w : World} {ys : List Nd} (h : NodesAt w ys) (hd : ∀ a ∈ ys, ∀ b ∈ ys, a.at_ = b.at_ → a = b) (hnd : ys.Nodup) {x : Nd} {k n g cap : Nat} (hk : ys[k]? = some x) (hm : n + 1 = ys.length) (hm2 : n + 1 ≤ 1000) {B : Nat} (hB : w.cell? ⟨B, 0, none⟩ = some (.pointer (some ⟨x.at_, 0, none⟩))) (hBg : B ≠ g)
    {F : Nat → Value} (hr : w.rowIs g 76 cap F) (hF : ∀ j, j < n + 1 → F j = ndF ys j) (hc1 : n + 1 ≤ cap) :
    Calls Try.prog 66 #[.slice (some ⟨g, 0, none⟩) (n + 1) cap, .func (.func 67) #[] #[.pointer (some ⟨B, 0, none⟩)]] w fun e w' => ∃ F', e = .returned (.slice (some ⟨g, 0, none⟩) n cap) ∧ w'.rowIs g 76 cap F' ∧ (∀ j, j < n → F' j = if j < k then ndF ys j else ndF ys (j + 1)) ∧ Chg w w' (fun b => b = g) := by
  have hkm : k < n + 1 := by rw [hm]; exact (List.getElem?_eq_some_iff.1 hk).1
  have HI := hidd (indexFunc_any (cap := cap) h hd hnd hk hm hm2 hB (fun j hj => by rw [hr.cell (by omega), hF j hj]))
  have HCL : Hid (∀ (Z : World) (j : Nat) (y : Nd), Chg w Z (fun b => b = g) → k < j → ys[j]? = some y → Calls Try.prog 67 #[.pointer (some ⟨y.at_, 0, none⟩), .pointer (some ⟨B, 0, none⟩)] Z fun e w' => e = .returned (.bool false) ∧ w' = Z) := fun Z j y hZ hkj hj => by
    have hN : NodesAt Z ys := fun z hz => by
      obtain ⟨f, hf⟩ := h z hz
      exact ⟨f, hZ.row hf (fun e => type_apart hf hr (by decide) e)⟩
    have := forcl_any hN (List.mem_of_getElem? hk) (List.mem_of_getElem? hj) (hZ.cell hB hBg)
    have e : decide (y.at_ = x.at_) = false := by
      have : y.at_ ≠ x.at_ := fun e2 => absurd ((List.getElem?_inj (List.getElem?_eq_some_iff.1 hj).1 hnd).1 (hj.trans (by rw [hd y (List.mem_of_getElem? hj) x (List.mem_of_getElem? hk) e2, hk]))) (by omega)
      simp [this]
    rw [e] at this
    exact this
  have HM := hidd hm
  have HR := hidd hr
  have HF := hidd hF
  have hk1 : ((k : Int) == -1) = false := by simp
  have hk2 : ¬ (k : Int) = -1 := by omega
  clear h hd hnd hk hB hr hm hF
  go_enter Try.func66, Try.ntmps66
  go_wp2_with (go_at_call 76; refine HI.out.mono ?_; rintro e w9 ⟨rfl, h9⟩; rw [h9]; clear h9)
  clear HI hk1 hk2
  go_loopw [5, 6, 7] (fun vi vj _ wr => ∃ i : Nat, k ≤ i ∧ i ≤ n ∧ vi = .int .i64 i ∧ vj = .int .i64 ((i : Int) + 1) ∧ wr.rowIs g 76 cap (shF F k (i + 1)) ∧ Chg w wr (fun b => b = g)) (fun vi _ _ _ => n + 1 - (intOf vi).toNat)
  case atStart => exact ⟨k, Nat.le_refl _, by omega, rfl, rfl, HR.out.congr (fun t _ => by unfold shF; rw [if_neg (by omega)]), Chg.refl _ _⟩
  case round =>
    obtain ⟨i, hki, hin, rfl, rfl, hrow, hch⟩ := hrel
    by_cases hlt : i < n
    · obtain ⟨y, hy⟩ : ∃ y, ys[i + 1]? = some y := ⟨_, List.getElem?_eq_getElem (show i + 1 < ys.length by rw [← HM.out]; omega)⟩
      have d := hrow.cell (i := i + 1) (by omega)
      have eF : shF F k (i + 1) (i + 1) = .pointer (some ⟨y.at_, 0, none⟩) := by
        unfold shF
        rw [if_neg (by omega), HF.out _ (by omega), ndF_get hy]
      rw [eF] at d
      have d2 := hrow.cell (i := i) (by omega)
      have fr := hrow.frozen
      have hc := HCL.out wr (i + 1) y hch (by omega) hy
      have EF := hidd eF
      have ti : ((i : Int) + 1).toNat = i + 1 := by omega
      have HROW := hidd hrow
      clear hy eF hrow
      go_wp2_with (go_at_call 67; refine hc.mono ?_; rintro e w9 ⟨rfl, h9⟩; rw [h9]; clear h9)
      go_roundw
      case rel =>
        refine ⟨i + 1, by omega, by omega, by go_num, by go_num, (HROW.out.set i _).congr (fun t ht => ?_), hch.trans (Chg.of_set wr g i _) (fun _ _ e => e)⟩
        by_cases e : t = i
        · subst e
          rw [if_pos rfl, ← EF.out]
          unfold shF
          rw [if_neg (by omega), if_pos (by omega)]
        · rw [if_neg e]
          unfold shF
          by_cases e2 : k ≤ t ∧ t + 1 < i + 1
          · rw [if_pos e2, if_pos (by omega)]
          · rw [if_neg e2, if_neg (by omega)]
      case measure => simp [intOf]; omega
    · obtain rfl : i = n := by omega
      have HROW := hidd hrow
      have i3 : ¬ cap = i := by omega
      have e1 : i + 1 - i = 1 := by omega
      clear hrow
      have hcl := fun ty => Lib.run_clear_slice (P := Try.prog) wr 71 76 ty nilP Try.underlying71 zeroPN rfl rfl g i 1 (cap - i) (by decide) (fun j hj => by rw [HROW.out.cell (by omega)]; rfl) (fun j _ => HROW.out.frozen _)
      go_wp2
      go_ret
      have hr8 := rowIs_setCells (List.replicate 1 nilP) i wr _ HROW.out
      refine ⟨_, rfl, hr8, fun j hj => ?_, hch.trans (Chg.of_setCells g _ _ _) (fun _ _ e => e)⟩
      rw [if_neg (by omega)]
      unfold shF
      by_cases e : j < k
      · rw [if_neg (by omega), if_pos e, HF.out j (by omega)]
      · rw [if_pos (by omega), if_neg e, HF.out (j + 1) (by omega)]
end Go.Proofs.Ytaalinlggjimcaa
