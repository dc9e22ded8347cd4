import Derived.Test.YtemmghneohnigaaDoorWrJ
import Derived.Deep.DeepCutAuto
namespace Go.Proofs.YtemmghneohnigaaDoor
open Go.RowKit
/-! The reference's Decimal and Int. -/
theorem decL_low {u : Nat} (h : u < 10) : decL u = [48 + (u : Int)] := by
  unfold decL numsU
  rw [Lib.decDigits, dif_pos h]
  simp
  omega
theorem decL_step {u : Nat} (h : 9 < u) : decL u = decL (u / 10) ++ [48 + ((u % 10 : Nat) : Int)] := by
  unfold decL numsU
  rw [Lib.decDigits, dif_neg (by omega)]
  rw [List.map_append]
  congr 1
  simp
  omega
theorem rd_byte (w : World) (x : Int) : RdA (w.alloc (.cells #[.int .u8 x] 5)) (some ⟨w.heap.size, 0, none⟩) 1 [x].length 1 (fun j => .int .u8 ([x].getD j 0)) :=
  ⟨Nat.le_refl _, by unfold maxLen; omega, fun _ => ⟨w.heap.size, 0, rfl, fun j hj => by
    have : j = 0 := by simp at hj; omega
    subst this
    exact new_cell w (.int .u8 x) 5⟩⟩
set_option maxRecDepth 20000 in
set_option maxHeartbeats 1000000 in
theorem rdec_any (u : Nat) (hu : u < 18446744073709551616) (w : World) : Calls Tryd.prog 42 #[.int .u64 u] w fun e w' => e = .returned (.string (strOfNums (decL u))) ∧ Below w.heap.size w w' := by
  have HLN := hidd (decL_len u hu)
  go_enter Tryd.func42, Tryd.ntmps42
  go_wp2
  go_loopw [0, 3] (fun m s wr => ∃ (M : Nat) (l : List Int), m = .int .u64 (M : Int) ∧ s = .string (strOfNums l) ∧ M ≤ u ∧ Hid (decL u = decL M ++ l) ∧ Hid (Below w.heap.size w wr)) (fun m _ _ => (intOf m).toNat)
  case atStart => exact ⟨u, [], rfl, rfl, Nat.le_refl _, by show _ = _; simp, Below.refl _ _⟩
  case round =>
    obtain ⟨M, l, rfl, rfl, hM, hl, hf⟩ := hrel
    by_cases h9 : 9 < M
    · have b1 : decide ((9 : Int) < (M : Int)) = true := by simp; omega
      obtain ⟨q, eq⟩ : ∃ q, q = M / 10 := ⟨_, rfl⟩
      obtain ⟨r, er⟩ : ∃ r, r = M % 10 := ⟨_, rfl⟩
      have hstep : Hid (decL u = decL q ++ (48 + (r : Int)) :: l) := by
        show _ = _
        rw [hl.out, decL_step h9, ← eq, ← er]
        simp
      have hrem : (M : Int).tmod 10 = (r : Int) := by rw [Int.tmod_eq_emod_of_nonneg (by omega)]; omega
      have hquo : (M : Int).tdiv 10 = (q : Int) := by rw [Int.tdiv_eq_ediv_of_nonneg (by omega)]; omega
      have hr9 : r ≤ 9 := by omega
      have hw1 : IntKind.u64.wrap (48 + (r : Int)) = 48 + (r : Int) := by rw [IntKind.wrap_u64]; omega
      have hw2 : IntKind.u8.wrap (48 + (r : Int)) = 48 + (r : Int) := by rw [IntKind.wrap_u8']; omega
      have hw3 : IntKind.u64.wrap (q : Int) = (q : Int) := by rw [IntKind.wrap_u64]; omega
      have hw4 : IntKind.u64.wrap (r : Int) = (r : Int) := by rw [IntKind.wrap_u64]; omega
      have hcv := conv_str (rd_byte wr (48 + (r : Int)))
      have hap := str_app [48 + (r : Int)] l
      have hqM : q < M := by omega
      have HF := hidd (fresh_trans hf.out (fresh_alloc wr (.cells #[.int .u8 (48 + (r : Int))] 5)))
      have HAP := hidd hap
      have hlen : [48 + (r : Int)].length = 1 := rfl
      rw [hlen] at hcv
      clear eq er hl hf hap hlen
      have hln : ([48 + (r : Int)] ++ l).length ≤ 20 := by
        have := HLN.out
        rw [hstep.out] at this
        simp at this ⊢
        omega
      have hsz1 : (strOfNums [48 + (r : Int)]).size = 1 := strOfNums_size _
      have hsz2 : (strOfNums l).size ≤ 20 := by rw [strOfNums_size]; simp at hln; omega
      go_wp2
      go_roundw
      case rel => exact ⟨q, (48 + (r : Int)) :: l, rfl, by first | rw [HAP.out]; rfl | exact congrArg Value.string HAP.out, by omega, hstep.out, HF.out⟩
      case measure => simp [intOf]; omega
    · have b1 : decide ((9 : Int) < (M : Int)) = false := by simp; omega
      have hfin : Hid (decL u = (48 + (M : Int)) :: l) := by
        show _ = _
        rw [hl.out, decL_low (by omega)]
        simp
      have hw1 : IntKind.u64.wrap (48 + (M : Int)) = 48 + (M : Int) := by rw [IntKind.wrap_u64]; omega
      have hw2 : IntKind.u8.wrap (48 + (M : Int)) = 48 + (M : Int) := by rw [IntKind.wrap_u8']; omega
      have hcv := conv_str (rd_byte wr (48 + (M : Int)))
      have HAP := hidd (str_app [48 + (M : Int)] l)
      have HF := hidd (fresh_trans hf.out (fresh_alloc wr (.cells #[.int .u8 (48 + (M : Int))] 5)))
      have hlen : [48 + (M : Int)].length = 1 := rfl
      rw [hlen] at hcv
      have hsz1 : (strOfNums [48 + (M : Int)]).size = 1 := strOfNums_size _
      have hsz2 : (strOfNums l).size ≤ 20 := by
        have := HLN.out
        rw [hfin.out] at this
        rw [strOfNums_size]
        simp at this
        omega
      clear hl hf hlen
      go_wp2
      go_ret
      exact ⟨by rw [hfin.out]; first | exact congrArg (fun s => Ending.returned (Value.string s)) HAP.out | rfl, HF.out⟩
end Go.Proofs.YtemmghneohnigaaDoor
namespace Go.Proofs.YtemmghneohnigaaDoor
open Go.RowKit
/-! The reference's Int and numbers. -/
theorem numL_pos (u : Nat) : numL (u : Int) = decL u := by unfold numL decL; rw [Lib.itoa_nonneg]
theorem numL_neg {u : Nat} (h : 1 ≤ u) : numL (-(u : Int)) = 45 :: decL u := by unfold numL decL; rw [Lib.itoa_neg u h]; rfl
set_option maxRecDepth 20000 in
theorem rint_any {n : Int} (h0 : -9223372036854775808 ≤ n) (h1 : n ≤ 9223372036854775807) (w : World) : Calls Tryd.prog 41 #[.int .i64 n] w fun e w' => e = .returned (.string (strOfNums (numL n))) ∧ Below w.heap.size w w' := by
  by_cases hn : n < 0
  · obtain ⟨u, rfl⟩ : ∃ u : Nat, n = -(u : Int) := ⟨n.natAbs, by omega⟩
    have hu1 : 1 ≤ u := by omega
    have b1 : decide (-(u : Int) < 0) = true := by simp; omega
    have hwr : IntKind.u64.wrap (-IntKind.u64.wrap (-(u : Int))) = (u : Int) := by rw [IntKind.wrap_u64, IntKind.wrap_u64]; omega
    have HD := hidd (fun w1 => rdec_any u (by omega) w1)
    have HAP := hidd (str_app [45] (decL u))
    have hz : (strOfNums (decL u)).size ≤ 20 := by rw [strOfNums_size]; exact decL_len u (by omega)
    rw [numL_neg hu1]
    have hs45 : strOfNums [45] = (⟨#[45]⟩ : ByteArray) := rfl
    rw [hs45] at HAP
    clear hs45
    have hs1 : (⟨#[45]⟩ : ByteArray).size = 1 := rfl
    obtain ⟨sd, esd⟩ : ∃ sd, sd = strOfNums (decL u) := ⟨_, rfl⟩
    rw [← esd] at HD HAP hz
    clear esd
    go_enter Tryd.func41, Tryd.ntmps41
    go_wp2_with (go_at_call 42; with_reducible refine (HD.out _).mono ?_; rintro e w1 ⟨rfl, f1⟩)
    go_ret
    exact ⟨congrArg (fun s => Ending.returned (Value.string s)) HAP.out, f1⟩
  · obtain ⟨u, rfl⟩ : ∃ u : Nat, n = (u : Int) := ⟨n.toNat, by omega⟩
    have b1 : decide ((u : Int) < 0) = false := by simp
    have hwr : IntKind.u64.wrap (u : Int) = (u : Int) := by rw [IntKind.wrap_u64]; omega
    have HD := hidd (fun w1 => rdec_any u (by omega) w1)
    rw [numL_pos]
    generalize strOfNums (decL u) = sd at *
    go_enter Tryd.func41, Tryd.ntmps41
    go_wp2_with (go_at_call 42; with_reducible refine (HD.out _).mono ?_; rintro e w1 ⟨rfl, f1⟩)
    go_ret
    exact ⟨rfl, f1⟩
/-- how many numbers a word has, -1 for none -/
def numW (l : List Int) : Int := if l = wNm 0 then 6 else if l = wNm 3 ∨ l = wNm 5 then 1 else if l = wNm 1 ∨ l = wNm 2 ∨ l = wNm 4 then 0 else -1
set_option maxRecDepth 20000 in
set_option maxHeartbeats 1000000 in
theorem rnumbers_any {l : List Int} (hl : Byt l) (w : World) : Calls Tryd.prog 40 #[.string (strOfNums l)] w fun e w' => e = .returned (.int .i64 (numW l)) ∧ Below w.heap.size w w' := by
  have q0 := str_eq hl (nm_byt (k := 0) (by omega)).1
  have q1 := str_eq hl (nm_byt (k := 1) (by omega)).1
  have q2 := str_eq hl (nm_byt (k := 2) (by omega)).1
  have q3 := str_eq hl (nm_byt (k := 3) (by omega)).1
  have q4 := str_eq hl (nm_byt (k := 4) (by omega)).1
  have q5 := str_eq hl (nm_byt (k := 5) (by omega)).1
  rw [show strOfNums (wNm 0) = (⟨#[97, 115, 107]⟩ : ByteArray) from rfl, show (⟨#[97, 115, 107]⟩ : ByteArray).toList = [97, 115, 107] from by decide +kernel] at q0
  rw [show strOfNums (wNm 1) = (⟨#[99, 97, 110, 99, 101, 108]⟩ : ByteArray) from rfl, show (⟨#[99, 97, 110, 99, 101, 108]⟩ : ByteArray).toList = [99, 97, 110, 99, 101, 108] from by decide +kernel] at q1
  rw [show strOfNums (wNm 2) = (⟨#[111, 107]⟩ : ByteArray) from rfl, show (⟨#[111, 107]⟩ : ByteArray).toList = [111, 107] from by decide +kernel] at q2
  rw [show strOfNums (wNm 3) = (⟨#[101, 114, 114, 111, 114]⟩ : ByteArray) from rfl, show (⟨#[101, 114, 114, 111, 114]⟩ : ByteArray).toList = [101, 114, 114, 111, 114] from by decide +kernel] at q3
  rw [show strOfNums (wNm 4) = (⟨#[116, 101, 120, 116]⟩ : ByteArray) from rfl, show (⟨#[116, 101, 120, 116]⟩ : ByteArray).toList = [116, 101, 120, 116] from by decide +kernel] at q4
  rw [show strOfNums (wNm 5) = (⟨#[101, 110, 100]⟩ : ByteArray) from rfl, show (⟨#[101, 110, 100]⟩ : ByteArray).toList = [101, 110, 100] from by decide +kernel] at q5
  generalize hN : numW l = N
  have HN := hidd hN
  clear hN
  unfold numW at HN
  generalize strOfNums l = s at *
  by_cases h0 : l = wNm 0
  · obtain rfl : 6 = N := by have := HN.out; rwa [if_pos h0] at this
    rw [decide_eq_true h0] at q0
    clear HN q1 q2 q3 q4 q5 h0
    go_enter Tryd.func40, Tryd.ntmps40
    go_wp2
    go_ret
    exact ⟨rfl, Below.refl _ _⟩
  rw [decide_eq_false h0] at q0
  by_cases h3 : l = wNm 3
  · obtain rfl : 1 = N := by have := HN.out; rwa [if_neg h0, if_pos (.inl h3)] at this
    rw [decide_eq_true h3] at q3
    clear HN q1 q2 q4 q5 h0 h3
    go_enter Tryd.func40, Tryd.ntmps40
    go_wp2
    go_ret
    exact ⟨rfl, Below.refl _ _⟩
  rw [decide_eq_false h3] at q3
  by_cases h5 : l = wNm 5
  · obtain rfl : 1 = N := by have := HN.out; rwa [if_neg h0, if_pos (.inr h5)] at this
    rw [decide_eq_true h5] at q5
    clear HN q1 q2 q4 h0 h3 h5
    go_enter Tryd.func40, Tryd.ntmps40
    go_wp2
    go_ret
    exact ⟨rfl, Below.refl _ _⟩
  rw [decide_eq_false h5] at q5
  have h35 : ¬ (l = wNm 3 ∨ l = wNm 5) := fun h => h.elim h3 h5
  by_cases h1 : l = wNm 1
  · obtain rfl : 0 = N := by have := HN.out; rwa [if_neg h0, if_neg h35, if_pos (.inl h1)] at this
    rw [decide_eq_true h1] at q1
    clear HN q2 q4 h0 h3 h5 h1 h35
    go_enter Tryd.func40, Tryd.ntmps40
    go_wp2
    go_ret
    exact ⟨rfl, Below.refl _ _⟩
  rw [decide_eq_false h1] at q1
  by_cases h2 : l = wNm 2
  · obtain rfl : 0 = N := by have := HN.out; rwa [if_neg h0, if_neg h35, if_pos (.inr (.inl h2))] at this
    rw [decide_eq_true h2] at q2
    clear HN q4 h0 h3 h5 h1 h35 h2
    go_enter Tryd.func40, Tryd.ntmps40
    go_wp2
    go_ret
    exact ⟨rfl, Below.refl _ _⟩
  rw [decide_eq_false h2] at q2
  by_cases h4 : l = wNm 4
  · obtain rfl : 0 = N := by have := HN.out; rwa [if_neg h0, if_neg h35, if_pos (.inr (.inr h4))] at this
    rw [decide_eq_true h4] at q4
    clear HN h0 h3 h5 h1 h35 h2 h4
    go_enter Tryd.func40, Tryd.ntmps40
    go_wp2
    go_ret
    exact ⟨rfl, Below.refl _ _⟩
  rw [decide_eq_false h4] at q4
  obtain rfl : -1 = N := by have := HN.out; rwa [if_neg h0, if_neg h35, if_neg (fun h => h.elim h1 (fun h => h.elim h2 h4))] at this
  clear HN h0 h3 h5 h1 h35 h2 h4
  go_enter Tryd.func40, Tryd.ntmps40
  go_wp2
  go_ret
  exact ⟨rfl, Below.refl _ _⟩
end Go.Proofs.YtemmghneohnigaaDoor
namespace Go.Proofs.YtemmghneohnigaaDoor
open Go.RowKit
/-! Comparisons and copies of a line's lists. -/
theorem infoI : (Tryd.prog.info? 3).map (fun i => (i.zero, i.size, i.bytes)) = some (some (.int .i64 0), 1, 8) := by kernel_rfl
set_option maxHeartbeats 1000000 in
theorem copyI_any {w : World} {ao : Option Addr} {n ca : Nat} {f : Nat → Int} (ha : RdA w ao 1 n ca (fun i => .int .i64 (f i))) (hn : n ≤ 17592186044000) :
    Calls Tryd.prog 22 #[.slice ao n ca] w fun e w' => ∃ v, e = .returned v ∧ Own w' w.heap.size 3 1 v n (fun j => .int .i64 (f j)) ∧ Below w.heap.size w w' := by
  go_enter Tryd.func22, Tryd.ntmps22
  go_wp2
  go_loopw [3, 4] (fun v i wr => ∃ k : Nat, k ≤ n ∧ i = .int .i64 k ∧ Own wr w.heap.size 3 1 v k (fun j => .int .i64 (f j)) ∧ Below w.heap.size w wr) (fun _ i _ => n - (intOf i).toNat)
  case atStart => exact ⟨0, by omega, rfl, own_nil _ _ _ _ _, Below.refl _ _⟩
  case round =>
    obtain ⟨k, hk, rfl, hown, hf1⟩ := hrel
    have hsz := hf1.size
    by_cases hlt : k < n
    · obtain ⟨b1, o1, rfl, h1⟩ := (ha.fresh hf1).one (by omega)
      have c1 := h1 k hlt
      clear h1
      go_wp2_with (at_builtin; refine wpList_app1 _ rfl _ _ 31 rfl _ 3 (.int .i64 0) 8 Tryd.underlying31 infoI rfl _ k _ rfl (hown.kept (fresh_alloc _ _)) _ 1 rfl (new_cell _ _ _) rfl (by omega) (by omega) (by simp; omega) ?_)
      intro v' w6 hown' happ
      have hf6 := happ.below (hf1.alloc hsz _) (hown.kept (fresh_alloc _ _)) (Nat.le_refl _) (by simp; omega)
      clear happ hown hf1 c1
      go_wp2
      go_roundw
      case rel => exact ⟨k + 1, by omega, by go_num, hown', hf6⟩
      case measure => simp [intOf]; omega
    · obtain rfl : k = n := by omega
      go_wp2
      go_ret
      exact ⟨_, rfl, hown, hf1⟩
set_option maxHeartbeats 1000000 in
theorem eqInts_same {w : World} {ao bo : Option Addr} {n ca cb : Nat} {f g : Nat → Int} (ha : RdA w ao 1 n ca (fun i => .int .i64 (f i))) (hb : RdA w bo 1 n cb (fun i => .int .i64 (g i))) (hfg : ∀ i, i < n → f i = g i) :
    Calls Tryd.prog 38 #[.slice ao n ca, .slice bo n cb] w fun e w' => e = .returned (.bool true) ∧ Below w.heap.size w w' := by
  have hn : n ≤ 9223372036854775807 := by have := ha.le; have := ha.top; unfold maxLen at this; omega
  go_enter Tryd.func38, Tryd.ntmps38
  go_wp2
  go_loopw [5] (fun i wr => ∃ k : Nat, k ≤ n ∧ i = .int .i64 k ∧ Below w.heap.size w wr) (fun i _ => n - (intOf i).toNat)
  case atStart => exact ⟨0, by omega, rfl, Below.refl _ _⟩
  case round =>
    obtain ⟨k, hk, rfl, hf⟩ := hrel
    by_cases hlt : k < n
    · obtain ⟨b1, o1, rfl, h1⟩ := (ha.fresh hf).one (by omega)
      obtain ⟨b2, o2, rfl, h2⟩ := (hb.fresh hf).one (by omega)
      have c1 := h1 k hlt
      have c2 := h2 k hlt
      have e := hfg k hlt
      rw [← e] at c2
      clear h1 h2 e
      go_wp2
      go_quiet (fail)
      go_wp2
      go_roundw
      case rel => exact ⟨k + 1, by omega, by go_num, below_drewN hf _⟩
      case measure => simp [intOf]; omega
    · go_wp2
      go_ret
      exact ⟨rfl, hf⟩
set_option maxHeartbeats 1000000 in
theorem eqTexts_same {w : World} {ao bo : Option Addr} {n ca cb : Nat} {f g : Nat → ByteArray} (ha : RdA w ao 1 n ca (fun i => .string (f i))) (hb : RdA w bo 1 n cb (fun i => .string (g i))) (hfg : ∀ i, i < n → f i = g i) :
    Calls Tryd.prog 39 #[.slice ao n ca, .slice bo n cb] w fun e w' => e = .returned (.bool true) ∧ Below w.heap.size w w' := by
  have hn : n ≤ 9223372036854775807 := by have := ha.le; have := ha.top; unfold maxLen at this; omega
  go_enter Tryd.func39, Tryd.ntmps39
  go_wp2
  go_loopw [5] (fun i wr => ∃ k : Nat, k ≤ n ∧ i = .int .i64 k ∧ Below w.heap.size w wr) (fun i _ => n - (intOf i).toNat)
  case atStart => exact ⟨0, by omega, rfl, Below.refl _ _⟩
  case round =>
    obtain ⟨k, hk, rfl, hf⟩ := hrel
    by_cases hlt : k < n
    · obtain ⟨b1, o1, rfl, h1⟩ := (ha.fresh hf).one (by omega)
      obtain ⟨b2, o2, rfl, h2⟩ := (hb.fresh hf).one (by omega)
      have c1 := h1 k hlt
      have c2 := h2 k hlt
      have e := hfg k hlt
      rw [← e] at c2
      clear h1 h2 e
      go_wp2
      go_quiet (fail)
      go_wp2
      go_roundw
      case rel => exact ⟨k + 1, by omega, by go_num, below_drewN hf _⟩
      case measure => simp [intOf]; omega
    · go_wp2
      go_ret
      exact ⟨rfl, hf⟩
end Go.Proofs.YtemmghneohnigaaDoor
namespace Go.Proofs.YtemmghneohnigaaDoor
open Go.RowKit
/-! eqLines: the same line in two places. -/
theorem str_refl (s : ByteArray) : (s.toList == s.toList) = true := by simp
set_option maxRecDepth 20000 in
set_option maxHeartbeats 2000000 in
theorem eqLines_same {w : World} {wd gd : ByteArray} {n sd : Int} {f : Nat → Int} {h : Nat → Int} {s : Nat → ByteArray} {am bm cm : Nat} {ao bo co ao' bo' co' : Option Addr} {ac bc cc ac' bc' cc' : Nat}
    (ha : RdA w ao 1 am ac (fun i => .int .u8 (f i))) (ha' : RdA w ao' 1 am ac' (fun i => .int .u8 (f i))) (hb : RdA w bo 1 bm bc (fun i => .int .i64 (h i))) (hb' : RdA w bo' 1 bm bc' (fun i => .int .i64 (h i))) (hc : RdA w co 1 cm cc (fun i => .string (s i))) (hc' : RdA w co' 1 cm cc' (fun i => .string (s i))) :
    Calls Tryd.prog 17 #[.agg (lnA wd n ao am ac bo bm bc sd gd co cm cc), .agg (lnA wd n ao' am ac' bo' bm bc' sd gd co' cm cc')] w fun e w' => e = .returned (.bool true) ∧ Below w.heap.size w w' := by
  have fA := fresh_alloc w (.cells (lnA wd n ao am ac bo bm bc sd gd co cm cc) 38)
  have bA := Blk.new w 38 (lnA wd n ao am ac bo bm bc sd gd co cm cc)
  have fB := fresh_alloc (w.alloc (.cells (lnA wd n ao am ac bo bm bc sd gd co cm cc) 38)) (.cells (lnA wd n ao' am ac' bo' bm bc' sd gd co' cm cc') 35)
  have bB := Blk.new (w.alloc (.cells (lnA wd n ao am ac bo bm bc sd gd co cm cc) 38)) 35 (lnA wd n ao' am ac' bo' bm bc' sd gd co' cm cc')
  have HB1 := hidd (bA.fresh fB)
  have HB2 := hidd bB
  have HF := hidd (fresh_trans fA fB)
  have HEB := hidd (fun (w1 : World) (g1 : Below w.heap.size w w1) => eqBytes_same (ha.fresh g1) (ha'.fresh g1) (fun _ _ => rfl))
  have HEI := hidd (fun (w1 : World) (g1 : Below w.heap.size w w1) => eqInts_same (hb.fresh g1) (hb'.fresh g1) (fun _ _ => rfl))
  have HET := hidd (fun (w1 : World) (g1 : Below w.heap.size w w1) => eqTexts_same (hc.fresh g1) (hc'.fresh g1) (fun _ _ => rfl))
  clear ha ha' hb hb' hc hc' fA bA fB bB
  have hz : (w.alloc (.cells (lnA wd n ao am ac bo bm bc sd gd co cm cc) 38)).heap.size = w.heap.size + 1 := by simp
  rw [hz] at HB2
  clear hz
  go_enter Tryd.func17, Tryd.ntmps17
  go_upto_region 1 with fail
  generalize (w.alloc (.cells (lnA wd n ao am ac bo bm bc sd gd co cm cc) 38)).alloc (.cells (lnA wd n ao' am ac' bo' bm bc' sd gd co' cm cc') 35) = w1 at *
  obtain ⟨A, eA⟩ : ∃ A, A = w.heap.size := ⟨_, rfl⟩
  obtain ⟨B, eB⟩ : ∃ B, B = w.heap.size + 1 := ⟨_, rfl⟩
  try rw [← eB]
  rw [← eB] at HB2
  try rw [← eA]
  rw [← eA] at HB1
  clear eA eB
  have a2 := HB1.out.cell 2
  have c2 := HB2.out.cell 2
  simp at a2 c2
  go_upto_region 2 with (first | (go_at_call 11; with_reducible refine (HEB.out _ HF.out).mono ?_; rintro e w2 ⟨rfl, f2⟩; have HF2 := hidd (fresh_trans HF.out f2); have a3 := (HB1.out.fresh f2).cell 3; have c3 := (HB2.out.fresh f2).cell 3; simp at a3 c3) | (go_at_call 38; with_reducible refine (HEI.out _ HF2.out).mono ?_; rintro e w3 ⟨rfl, f3⟩; have HF3 := hidd (fresh_trans HF2.out f3); have a6 := (HB1.out.fresh (fresh_trans f2 f3)).cell 6; have c6 := (HB2.out.fresh (fresh_trans f2 f3)).cell 6; simp at a6 c6) | (go_at_call 39; with_reducible refine (HET.out _ HF3.out).mono ?_; rintro e w4 ⟨rfl, f4⟩))
  have f14 := fresh_trans f2 (fresh_trans f3 f4)
  have HF4 := hidd (fresh_trans HF.out f14)
  have hA := HB1.out.fresh f14
  have hB := HB2.out.fresh f14
  clear a2 c2 a3 c3 a6 c6 f2 f3 f4 f14 HF2 HF3
  have a0 := hA.cell 0
  have a1 := hA.cell 1
  have a4 := hA.cell 4
  have a5 := hA.cell 5
  have b0 := hB.cell 0
  have b1 := hB.cell 1
  have b4 := hB.cell 4
  have b5 := hB.cell 5
  simp at a0 a1 a4 a5 b0 b1 b4 b5
  clear hA hB
  go_wp2
  go_ret
  exact ⟨rfl, HF4.out⟩
end Go.Proofs.YtemmghneohnigaaDoor
