import Derived.Test.YtemmghneohnigaaDoorWuA
import Derived.Test.YtemmghneohnigaaDoorWLay
import Derived.Deep.DeepCutAuto
namespace Go.Proofs.YtemmghneohnigaaDoor
open Go.RowKit
/-! pieceLen, byteOf. -/
theorem conv_bytes (w : World) (s : ByteArray) (hs : s.size ≤ 140737488351232) : ∃ c w1, (convert 9 22 (.string s)).run Tryd.prog w = .ok (.slice (some ⟨w.heap.size, 0, none⟩) s.size c) w1 ∧ Below w.heap.size w w1 ∧ w1.heap.size = w.heap.size + 1 ∧ s.size ≤ c ∧ c ≤ maxLen ∧ ∀ j, j < s.size → w1.cell? ⟨w.heap.size, j, none⟩ = some (.int .u8 ((bys s).getD j 0)) := by
  refine ⟨_, _, run_bytes_of_string (P := Tryd.prog) w 9 22 5 s Tryd.underlying9 Tryd.underlying22 Tryd.underlying5, ?_, by simp, grownCap_ge _ _ _ _, grownCap_le_maxLen _ _ _ _ (by unfold maxLen; omega), fun j hj => ?_⟩
  · exact fresh_trans ((Below.refl _ _).drew) (fresh_alloc w.drew _)
  · have := World.cell?_alloc_mark w.drew (bytesRow s (grownCap w s.size 0 5)) 5 ((bytesRow s (grownCap w s.size 0 5)).size, (bytesRow s (grownCap w s.size 0 5)).size + 1) j
    have hj' : j < s.data.size := hj
    rw [bytesRow_at s _ j hj'] at this
    refine this.trans ?_
    unfold bys
    rw [List.getD_eq_getElem?_getD, List.getElem?_map, Array.getElem?_toList, Array.getElem?_eq_getElem hj']
    rfl
/-- the value of a hexadecimal digit, small or great -/
def hvD (c : Int) : Option Int :=
  if 48 ≤ c ∧ c ≤ 57 then some (c - 48)
  else if 97 ≤ bits .or .u8 c 32 ∧ bits .or .u8 c 32 ≤ 102 then some (bits .or .u8 c 32 - 87) else none
theorem lw_bd {c : Int} (h0 : 0 ≤ c) (h1 : c ≤ 255) : 0 ≤ bits .or .u8 c 32 ∧ bits .or .u8 c 32 ≤ 255 := by
  rw [u8_or c 32 h0 (by omega) (by omega) (by omega)]
  have : c.toNat ||| (32 : Int).toNat < 2 ^ 8 := Nat.or_lt_two_pow (by omega) (by decide)
  omega
theorem hvD_hx {q : Int} (h0 : 0 ≤ q) (h1 : q < 16) : hvD (hxD q) = some q := by
  obtain ⟨k, rfl⟩ := Int.eq_ofNat_of_zero_le h0
  have hk : k < 16 := by omega
  clear h0 h1
  match k, hk with
  | 0, _ => decide
  | 1, _ => decide
  | 2, _ => decide
  | 3, _ => decide
  | 4, _ => decide
  | 5, _ => decide
  | 6, _ => decide
  | 7, _ => decide
  | 8, _ => decide
  | 9, _ => decide
  | 10, _ => decide
  | 11, _ => decide
  | 12, _ => decide
  | 13, _ => decide
  | 14, _ => decide
  | 15, _ => decide
  | k + 16, h => exact absurd h (by omega)
/-- what one round of the reading of two digits does -/
def p16 (x y : Int) : Option Int := match hvD x with
  | none => none
  | some a => match hvD y with
    | none => none
    | some b => some (16 * a + b)
def P16P (x y : Int) (e : Ending) : Prop := (∃ v, p16 x y = some v ∧ e = .returned (.tuple #[.int .u64 v, .nilIface]) ∧ 0 ≤ v ∧ v ≤ 255) ∨ (p16 x y = none ∧ e = .returned (.tuple #[.int .u64 0, .iface 96 (.int .i64 2)]))
set_option maxRecDepth 20000 in
set_option maxHeartbeats 4000000 in
theorem iparse16 {x y : Int} (hx : 0 ≤ x ∧ x ≤ 255) (hy : 0 ≤ y ∧ y ≤ 255) (w : World) :
    Calls Tryd.prog 57 #[.string (strOfNums [x, y]), .int .i64 16, .int .i64 8] w fun e w' => Below w.heap.size w w' ∧ P16P x y e := by
  obtain ⟨cc, w1, hcv, hf1, hz1, hc1, hc2, hcl⟩ := conv_bytes w (strOfNums [x, y]) (by rw [strOfNums_size]; simp)
  have hsz : (strOfNums [x, y]).size = 2 := by rw [strOfNums_size]; rfl
  have hbx : bys (strOfNums [x, y]) = [x, y] := str_bys (byt_cons hx (byt_cons hy byt_nil))
  rw [hsz] at hc1 hcl hcv
  have c0 := hcl 0 (by omega)
  have c1 := hcl 1 (by omega)
  rw [hbx] at c0 c1
  have hne : (strOfNums [x, y]).toList.isEmpty = false := by
    rw [ByteArray.toList_eq, strOfNums_data]; rfl
  have hct : cc ≤ 9223372036854775807 := by unfold maxLen at hc2; omega
  clear hcl hbx hc2
  have HF1 := hidd hf1
  clear hf1
  generalize strOfNums [x, y] = s at *
  go_enter Tryd.func57, Tryd.ntmps57
  go_wp2
  have e0 : ([x, y].getD 0 0 : Int) = x := rfl
  have e1 : ([x, y].getD 1 0 : Int) = y := rfl
  rw [e0] at c0
  rw [e1] at c1
  clear e0 e1
  go_loopw [12, 13, 101] (fun us n i wr => ∃ (k : Nat) (N : Int), k ≤ 2 ∧ us = .bool false ∧ i = .int .i64 (k : Int) ∧ n = .int .u64 N ∧ wr = w1 ∧ Hid ((k = 0 ∧ N = 0) ∨ (k = 1 ∧ hvD x = some N ∧ 0 ≤ N ∧ N < 16) ∨ (k = 2 ∧ p16 x y = some N ∧ 0 ≤ N ∧ N ≤ 255))) (fun _ _ i _ => 2 - (intOf i).toNat)
  case atStart => exact ⟨0, 0, by omega, rfl, by simp, rfl, rfl, .inl ⟨rfl, rfl⟩⟩
  case round =>
    obtain ⟨k, N, hk, rfl, rfl, rfl, rfl, hR⟩ := hrel
    by_cases hlt : k < 2
    · have key : ∃ c, wr.cell? ⟨w.heap.size, k, none⟩ = some (.int .u8 c) ∧ 0 ≤ c ∧ c ≤ 255 ∧ 0 ≤ N ∧ N < 16 ∧ (hvD c = none → p16 x y = none) ∧ (∀ d, hvD c = some d → 0 ≤ d ∧ d < 16 → ((k + 1 = 1 ∧ hvD x = some (N * 16 + d) ∧ 0 ≤ N * 16 + d ∧ N * 16 + d < 16) ∨ (k + 1 = 2 ∧ p16 x y = some (N * 16 + d) ∧ 0 ≤ N * 16 + d ∧ N * 16 + d ≤ 255))) := by
        rcases hR.out with ⟨rfl, rfl⟩ | ⟨rfl, hxx, hN0, hN1⟩ | ⟨rfl, _⟩
        · refine ⟨x, c0, hx.1, hx.2, by omega, by omega, fun h => by unfold p16; rw [h], fun d h hd => .inl ⟨rfl, by rw [h]; simp, by omega, by omega⟩⟩
        · refine ⟨y, c1, hy.1, hy.2, hN0, hN1, fun h => by unfold p16; rw [hxx, h], fun d h hd => .inr ⟨rfl, ?_, by omega, by omega⟩⟩
          simp only [p16, hxx, h]
          rw [Int.mul_comm]
        · omega
      obtain ⟨c, cc1, hb0, hb1, hN0, hN1, hno, hyes⟩ := key
      have HNO := hidd hno
      have HYES := hidd hyes
      have hl := lw_bd hb0 hb1
      clear hno hyes hR c0 c1
      have j1 : (k : Int) < 2 := by omega
      have j0 : (0 : Int) ≤ (k : Int) := Int.natCast_nonneg _
      have b95 : ∀ b : Bool, ((c == 95) && false) = false := fun _ => by simp
      by_cases hd : 48 ≤ c ∧ c ≤ 57
      · have d1 : decide (48 ≤ c) = true := by simp; omega
        have d2 : decide (c ≤ 57) = true := by simp; omega
        have d3 : (c == 95) = false := by simp; omega
        have HY := hidd (HYES.out (c - 48) (by unfold hvD; rw [if_pos hd]) (by omega))
        go_wp2
        go_roundw
        case rel => exact ⟨k + 1, N * 16 + (c - 48), by omega, by trivial, by go_num, by go_num, by trivial, .inr HY.out⟩
        case measure => simp [intOf]; omega
      · have key : (decide (48 ≤ c) = false) ∨ (decide (48 ≤ c) = true ∧ decide (c ≤ 57) = false) := by
          simp only [decide_eq_true_eq, decide_eq_false_iff_not]; omega
        obtain ⟨L, eL⟩ : ∃ L, bits .or .u8 c 32 = L := ⟨_, rfl⟩
        by_cases hm : 97 ≤ L ∧ L ≤ 102
        · have m1 : decide (97 ≤ L) = true := by simp; omega
          have m2 : decide (L ≤ 122) = true := by simp; omega
          have HY := hidd (HYES.out (L - 87) (by unfold hvD; rw [if_neg hd, eL, if_pos hm]) (by omega))
          have L1 := hm.1
          have L2 := hm.2
          have d3 : (c == 95) = false := by
            cases h : (c == 95) with
            | false => rfl
            | true =>
              have : c = 95 := by simpa using h
              subst this
              have h127 : bits .or .u8 95 32 = 127 := by decide
              rw [h127] at eL
              omega
          have m3 : L - 97 + 10 = L - 87 := by omega
          clear hm hl hd HYES HNO
          rcases key with d1 | ⟨d1, d2⟩
          all_goals
            go_wp2
            go_roundw
            case rel => exact ⟨k + 1, N * 16 + (L - 87), by omega, by trivial, by go_num, by go_num, by trivial, .inr HY.out⟩
            case measure => simp [intOf]; omega
        · have HP := hidd (HNO.out (by unfold hvD; rw [if_neg hd, eL, if_neg hm]))
          rw [eL] at hl
          by_cases h95 : c = 95
          · subst h95
            have h127 : bits .or .u8 95 32 = 127 := by decide
            clear hd hm HYES HNO key eL
            go_wp2
            go_ret2
            exact ⟨HF1.out, .inr ⟨HP.out, rfl⟩⟩
          · have d3 : (c == 95) = false := by simp [h95]
            have key2 : (decide (97 ≤ L) = false) ∨ (decide (97 ≤ L) = true ∧ decide (L ≤ 122) = false) ∨ (decide (97 ≤ L) = true ∧ decide (L ≤ 122) = true ∧ 103 ≤ L ∧ L ≤ 122) := by
              simp only [decide_eq_true_eq, decide_eq_false_iff_not]; omega
            clear hd hm HYES HNO h95
            rcases key with d1 | ⟨d1, d2⟩ <;> rcases key2 with m1 | ⟨m1, m2⟩ | ⟨m1, m2, m3, m4⟩
            all_goals
              go_wp2
              go_ret2
              exact ⟨HF1.out, .inr ⟨HP.out, rfl⟩⟩
    · obtain rfl : k = 2 := by omega
      have hP : p16 x y = some N ∧ 0 ≤ N ∧ N ≤ 255 := by
        rcases hR.out with ⟨h, _⟩ | ⟨h, _⟩ | ⟨_, h⟩
        · omega
        · omega
        · exact h
      have HP := hidd hP
      clear hP hR
      go_wp2
      go_ret2
      exact ⟨HF1.out, .inl ⟨N, HP.out.1, rfl, HP.out.2⟩⟩
end Go.Proofs.YtemmghneohnigaaDoor

