import Derived.Test.YtonhnlahpfkalaaNrm
import Derived.Test.YtonhnlahpfkalaaMv
import Derived.Test.YtonhnlahpfkalaaEqs
import Derived.Deep.DeepCutAuto
namespace Go.Proofs.Ytonhnlahpfkalaa
open Go.RowKit
/-! The law TensorNorm: its walk. -/
theorem nr_pos (f : Nat → Int) (n : Nat) : 1 ≤ nr f n := by
  unfold nr
  have := (rt_bd (Fix.dv (dot (ncl f) (ncl f) n) (n : Int)) (dv_bd _ _ (dot_bd _ _ _).1 (dot_bd _ _ _).2).2).1
  omega
theorem ncl_sign (f : Nat → Int) (i : Nat) : (f i < 0 → ncl f i < 0) ∧ (0 < f i → 0 < ncl f i) ∧ (f i = 0 → ncl f i = 0) := by unfold ncl Fix.cl; omega
theorem ncl_mono (f : Nat → Int) {i k : Nat} (h : f k ≤ f i) : ncl f k ≤ ncl f i := by unfold ncl Fix.cl; omega
theorem prod_bd {a b : Int} (a0 : -16777216 ≤ a) (a1 : a ≤ 16777216) (b0 : -128 ≤ b) (b1 : b ≤ 127) : -2147483648 ≤ a * b ∧ a * b ≤ 2147483648 := by
  have h1 : (a + 16777216) * (b + 128) ≥ 0 := Int.mul_nonneg (by omega) (by omega)
  have h2 : (16777216 - a) * (b + 128) ≥ 0 := Int.mul_nonneg (by omega) (by omega)
  have e1 : (a + 16777216) * (b + 128) = a * b + 128 * a + 16777216 * b + 2147483648 := by grind
  have e2 : (16777216 - a) * (b + 128) = 16777216 * b + 2147483648 - a * b - 128 * a := by grind
  have h3 : (a + 16777216) * (127 - b) ≥ 0 := Int.mul_nonneg (by omega) (by omega)
  have e3 : (a + 16777216) * (127 - b) = 127 * a + 2130706432 - a * b - 16777216 * b := by grind
  have h4 : (16777216 - a) * (127 - b) ≥ 0 := Int.mul_nonneg (by omega) (by omega)
  have e4 : (16777216 - a) * (127 - b) = 2130706432 - 16777216 * b - 127 * a + a * b := by grind
  omega
theorem nrm_eq {f g : Nat → Int} {n i : Nat} (h0 : -128 ≤ g i) (h1 : g i ≤ 127) : nrm f g n i = Fix.cl (ncl f i * g i / nr f n) 127 := by
  unfold nrm
  have hb := ncl_bd f i
  have hp := prod_bd hb.1 hb.2 h0 h1
  have hr := nr_pos f n
  rw [wid _ (by omega) (by omega), Fix.dv_gt _ _ (by omega)]
theorem nrm_bd (f g : Nat → Int) (n i : Nat) : -127 ≤ nrm f g n i ∧ nrm f g n i ≤ 127 := c8_bd _
theorem nrm_neg {f g : Nat → Int} {n i : Nat} (h0 : -128 ≤ g i) (h1 : g i ≤ 127) (h : (f i < 0 ∧ 0 < g i) ∨ (0 < f i ∧ g i < 0)) : nrm f g n i < 0 := by
  rw [nrm_eq h0 h1]
  have hr := nr_pos f n
  have hs := ncl_sign f i
  have hp : ncl f i * g i < 0 := by
    rcases h with ⟨a, b⟩ | ⟨a, b⟩
    · exact Int.mul_neg_of_neg_of_pos (hs.1 a) b
    · exact Int.mul_neg_of_pos_of_neg (hs.2.1 a) b
  have hq : ncl f i * g i / nr f n < 0 := Int.ediv_neg_of_neg_of_pos hp (by omega)
  unfold Fix.cl; omega
theorem nrm_pos {f g : Nat → Int} {n i : Nat} (h0 : -128 ≤ g i) (h1 : g i ≤ 127) (h : (f i ≤ 0 ∧ g i ≤ 0) ∨ (0 ≤ f i ∧ 0 ≤ g i)) : 0 ≤ nrm f g n i := by
  rw [nrm_eq h0 h1]
  have hr := nr_pos f n
  have hs := ncl_sign f i
  have hp : 0 ≤ ncl f i * g i := by
    rcases h with ⟨a, b⟩ | ⟨a, b⟩
    · have : ncl f i ≤ 0 := by rcases Int.lt_or_eq_of_le a with e | e; · exact Int.le_of_lt (hs.1 e)
                               · rw [hs.2.2 e]; exact Int.le_refl _
      exact Int.mul_nonneg_of_nonpos_of_nonpos this b
    · have : 0 ≤ ncl f i := by rcases Int.lt_or_eq_of_le a with e | e; · exact Int.le_of_lt (hs.2.1 e)
                               · rw [hs.2.2 e.symm]; exact Int.le_refl _
      exact Int.mul_nonneg this b
  have hq : 0 ≤ ncl f i * g i / nr f n := Int.ediv_nonneg hp (by omega)
  unfold Fix.cl; omega
theorem nrm_zero {f g : Nat → Int} {n i : Nat} (h0 : -128 ≤ g i) (h1 : g i ≤ 127) (h : f i = 0 ∨ g i = 0) : nrm f g n i = 0 := by
  rw [nrm_eq h0 h1]
  have hp : ncl f i * g i = 0 := by
    rcases h with e | e
    · rw [(ncl_sign f i).2.2 e, Int.zero_mul]
    · rw [e, Int.mul_zero]
  rw [hp, Int.zero_ediv]; rfl
theorem nrm_mono {f g : Nat → Int} {n i k : Nat} (h0 : -128 ≤ g i) (h1 : g i ≤ 127) (hg : g k = g i) (hp : 0 < g i) (hx : f k ≤ f i) : nrm f g n k ≤ nrm f g n i := by
  rw [nrm_eq h0 h1, nrm_eq (by omega) (by omega), hg]
  have h := Int.mul_le_mul_of_nonneg_right (ncl_mono f hx) (Int.le_of_lt hp)
  have hq := Int.ediv_le_ediv (show 0 < nr f n by have := nr_pos f n; omega) h
  unfold Fix.cl; omega
theorem nrm_perm {f g : Nat → Int} {n : Nat} {p : Nat → Nat} (h : Perm n p) (i : Nat) : nrm (fun j => f (p j)) (fun j => g (p j)) n i = nrm f g n (p i) := by
  unfold nrm nr
  have e : ncl (fun j => f (p j)) = fun j => ncl f (p j) := rfl
  rw [e, dot_perm h]
/-- what the signs say, and what the answer's number then is -/
theorem nrm_cases {x g l : Int} (hneg : (x < 0 ∧ 0 < g) ∨ (0 < x ∧ g < 0) → l < 0) (hpos : (x ≤ 0 ∧ g ≤ 0) ∨ (0 ≤ x ∧ 0 ≤ g) → 0 ≤ l) (hz : x = 0 ∨ g = 0 → l = 0) :
    (x < 0 ∧ 0 < g ∧ l < 0) ∨ (0 < x ∧ g < 0 ∧ l < 0) ∨ (x = 0 ∧ l = 0) ∨ (x < 0 ∧ g = 0 ∧ l = 0) ∨ (0 < x ∧ g = 0 ∧ l = 0) ∨ (x < 0 ∧ g < 0 ∧ l = 0) ∨ (x < 0 ∧ g < 0 ∧ 0 < l) ∨ (0 < x ∧ 0 < g ∧ l = 0) ∨ (0 < x ∧ 0 < g ∧ 0 < l) := by
  rcases Int.lt_trichotomy x 0 with a | a | a
  · rcases Int.lt_trichotomy g 0 with b | b | b
    · have := hpos (.inl ⟨Int.le_of_lt a, Int.le_of_lt b⟩)
      rcases Int.lt_or_eq_of_le this with e | e
      · exact .inr (.inr (.inr (.inr (.inr (.inr (.inl ⟨a, b, e⟩))))))
      · exact .inr (.inr (.inr (.inr (.inr (.inl ⟨a, b, e.symm⟩)))))
    · exact .inr (.inr (.inr (.inl ⟨a, b, hz (.inr b)⟩)))
    · exact .inl ⟨a, b, hneg (.inl ⟨a, b⟩)⟩
  · exact .inr (.inr (.inl ⟨a, hz (.inl a)⟩))
  · rcases Int.lt_trichotomy g 0 with b | b | b
    · exact .inr (.inl ⟨a, b, hneg (.inr ⟨a, b⟩)⟩)
    · exact .inr (.inr (.inr (.inr (.inl ⟨a, b, hz (.inr b)⟩))))
    · have := hpos (.inr ⟨Int.le_of_lt a, Int.le_of_lt b⟩)
      rcases Int.lt_or_eq_of_le this with e | e
      · exact .inr (.inr (.inr (.inr (.inr (.inr (.inr (.inr ⟨a, b, e⟩)))))))
      · exact .inr (.inr (.inr (.inr (.inr (.inr (.inr (.inl ⟨a, b, e.symm⟩)))))))
set_option maxRecDepth 100000 in
set_option maxHeartbeats 4000000 in
theorem norm_few {w : World} {ao bo co : Option Addr} {n m q ca cb cc : Nat} (hn : n = 0 ∨ 1000 < n) (hn8 : n * 8 ≤ 140737488351232) :
    Calls Try.prog 6 #[.slice ao n ca, .slice bo m cb, .slice co q cc] w fun e w' => e = .returned (.bool true) ∧ Below w.heap.size w w' := by
  have hmk : ∀ w, (Instr.makeSlice 23 (.int .i64 ((n : Int) + 1)) (.int .i64 ((n : Int) + 1))).run Try.prog w = .ok (.slice (some ⟨w.heap.size, 0, none⟩) (n + 1) (n + 1)) (w.alloc (.cells (madeCells #[.int .i8 0] (n + 1)) 32)) := by
    have := run_make_row' (P := Try.prog) 23 32 (.int .i8 0) 1 Try.underlying23 infoI8 rfl .i64 .i64 (n + 1) (by omega) (by omega)
    simpa using this
  by_cases h0 : n = 0
  · have hz : ((n : Int) == 0) = true := by simp [h0]
    have H0 := hidd h0
    clear h0 hn
    go_enter Try.func6, Try.ntmps6
    go_wp2_with fail
    refine (fixed_any _).mono ?_
    rintro e w1 ⟨rfl, hf1⟩
    go_wp2_with fail
    refine (norm_bad (.inl H0.out)).mono ?_
    rintro e w2 ⟨rfl, hw2⟩
    rw [hw2]
    clear hw2
    go_wp2
    go_ret
    exact ⟨rfl, fresh_trans hf1 (fresh_alloc _ _)⟩
  · have hz : ((n : Int) == 0) = false := by simp; omega
    have hb : 1000 < n := by omega
    clear h0 hn
    go_enter Try.func6, Try.ntmps6
    go_wp2_with fail
    refine (fixed_any _).mono ?_
    rintro e w1 ⟨rfl, hf1⟩
    go_wp2_with fail
    refine (norm_bad (.inr (by omega))).mono ?_
    rintro e w2 ⟨rfl, hw2⟩
    rw [hw2]
    clear hw2
    go_wp2
    go_ret
    exact ⟨rfl, fresh_trans hf1 (fresh_alloc _ _)⟩
def ngB (x y : Int) : Bool := decide ((x < 0 ∧ 0 < y) ∨ (0 < x ∧ y < 0))
def nnB (x y : Int) : Bool := decide (x = 0 ∨ y = 0)
theorem sgn (x y : Int) : (x < 0 ∧ 0 < y ∧ ngB x y = true) ∨ (x < 0 ∧ ¬ 0 < y ∧ ngB x y = false) ∨ (0 < x ∧ y < 0 ∧ ngB x y = true) ∨ (0 < x ∧ ¬ y < 0 ∧ ngB x y = false) ∨ (x = 0 ∧ ngB x y = false) := by
  unfold ngB
  rcases Int.lt_trichotomy x 0 with a | a | a
  · by_cases b : 0 < y
    · exact .inl ⟨a, b, by simp [a, b]⟩
    · exact .inr (.inl ⟨a, b, by simp; omega⟩)
  · exact .inr (.inr (.inr (.inr ⟨a, by simp; omega⟩)))
  · by_cases b : y < 0
    · exact .inr (.inr (.inl ⟨a, b, by simp [a, b]⟩))
    · exact .inr (.inr (.inr (.inl ⟨a, b, by simp; omega⟩)))
theorem vb {a : Bool} (h : a = false) : Value.bool a = .bool false := by rw [h]
theorem sgz (x y : Int) : (x = 0 ∧ nnB x y = true) ∨ ((x == 0) = false ∧ y = 0 ∧ nnB x y = true) ∨ ((x == 0) = false ∧ (y == 0) = false ∧ nnB x y = false) := by
  unfold nnB
  by_cases a : x = 0
  · exact .inl ⟨a, by simp [a]⟩
  · by_cases b : y = 0
    · exact .inr (.inl ⟨by simp [a], b, by simp [b]⟩)
    · exact .inr (.inr ⟨by simp [a], by simp [b], by simp [a, b]⟩)
theorem ng_of (x y : Int) : ((x < 0 ∧ 0 < y) ∨ (0 < x ∧ y < 0) → ngB x y = true) ∧ (¬ ((x < 0 ∧ 0 < y) ∨ (0 < x ∧ y < 0)) → ngB x y = false) := ⟨fun h => decide_eq_true h, fun h => decide_eq_false h⟩
theorem nn_of (x y : Int) : (x = 0 ∨ y = 0 → nnB x y = true) ∧ (x ≠ 0 ∧ y ≠ 0 → nnB x y = false) := ⟨fun h => decide_eq_true h, fun h => decide_eq_false (by omega)⟩
set_option maxRecDepth 100000 in
set_option maxHeartbeats 4000000 in
theorem norm_law {w : World} {ao bo co : Option Addr} {n m q ca cb cc : Nat} {f g h : Nat → Int} (ha : RdA w ao 1 n ca (fun i => .int .i64 (f i))) (hb : RdA w bo 1 m cb (fun i => .int .i8 (g i))) (hd : RdA w co 1 q cc (fun i => .int .i64 (h i)))
    (bf : ∀ i, i < n → -9223372036854775808 ≤ f i ∧ f i ≤ 9223372036854775807) (bG : ∀ i, -128 ≤ atf m g i ∧ atf m g i ≤ 127) (hn0 : 0 < n) (hn1 : n ≤ 1000) :
    Calls Try.prog 6 #[.slice ao n ca, .slice bo m cb, .slice co q cc] w fun e w' => e = .returned (.bool true) ∧ Below w.heap.size w w' := by
  have hz : ((n : Int) == 0) = false := by simp; omega
  have hne : ((n : Int) != (n : Int)) = false := by simp
  go_enter Try.func6, Try.ntmps6
  go_wp2_with fail
  refine (fixed_any _).mono ?_
  rintro e w1 ⟨rfl, hf1⟩
  replace ha := ha.fresh hf1
  replace hb := hb.fresh hf1
  replace hd := hd.fresh hf1
  go_wp2
  clear hz
  have BG := hidd bG
  have BF := hidd bf
  clear bG bf
  go_loopw [11, 12] (fun v i wr => ∃ k : Nat, k ≤ n ∧ i = .int .i64 k ∧ Own wr w1.heap.size 32 1 v k (fun i => .int .i8 (atf m g i)) ∧ Below w1.heap.size w1 wr) (fun _ i _ => n - (intOf i).toNat)
  case atStart => exact ⟨0, by omega, rfl, own_nil _ _ _ _ _, Below.refl _ _⟩
  case round =>
    obtain ⟨k, hk, rfl, hown, hf⟩ := hrel
    have hsz := hf.size
    by_cases hlt : k < n
    · have qa := at_any (hb.fresh hf) k
      clear hne
      go_wp2_with fail
      refine qa.mono ?_
      rintro e w2 ⟨rfl, hw2⟩
      rw [hw2]
      clear hw2 qa w2
      go_wp2_with (at_builtin; refine wpList_app1 _ rfl _ _ 23 rfl _ 32 (.int .i8 0) 1 Try.underlying23 infoI8 rfl _ k _ rfl (hown.kept (fresh_alloc _ _)) _ 1 rfl (new_cell _ _ _) rfl (by omega) (by omega) (by simp; omega) ?_)
      intro v' w2 hown' happ
      have hf2 := happ.below (hf.alloc hsz _) (hown.kept (fresh_alloc _ _)) (Nat.le_refl _) (by simp; omega)
      clear happ hown
      go_wp2
      go_roundw
      case rel => exact ⟨k + 1, by omega, by go_num, hown', hf2⟩
      case measure => simp [intOf]; omega
    · obtain rfl : k = n := by omega
      obtain ⟨go, gc, rfl, hrg⟩ := hown.rd
      clear hown hsz
      have hx2 := ha.fresh hf
      have hd2 := hd.fresh hf
      have hF2 := fresh_trans hf1 hf
      clear ha hb hd hf hf1
      generalize atf m g = G at *
      go_wp2_with fail
      refine (norm_ok hx2 hrg BF.out (fun i _ => BG.out i) hn0 (by omega)).mono ?_
      rintro e w2 ⟨bl, Fl, rfl, hbl, hrl, hFl, hf3⟩
      have hrL := (rowIs_rd hrl (by unfold maxLen; omega)).congr (cs' := fun i => .int .i8 (nrm f G k i)) (fun j hj => hFl j (by omega))
      have hx3 := hx2.fresh hf3
      have hd3 := hd2.fresh hf3
      have hg3 := hrg.fresh hf3
      have hF3 := fresh_trans hF2 hf3
      clear hx2 hd2 hrg hF2 hrl hFl hf3 hbl
      go_wp2
      clear hne
      obtain ⟨bx, ox, rfl, hcx⟩ := hx3.one hn0
      obtain ⟨bg, og, rfl, hcg⟩ := hg3.one hn0
      obtain ⟨bl', ol', el, hcl⟩ := hrL.one hn0
      simp only [Option.some.injEq, Addr.mk.injEq, and_true] at el
      obtain ⟨rfl, rfl⟩ := el
      simp only [Nat.zero_add] at hcl
      have HX := hidd hcx
      have HG := hidd hcg
      have HL := hidd hcl
      clear hcx hcg hcl
      go_loopw [15] (fun i wr => ∃ j : Nat, j ≤ k ∧ i = .int .i64 j ∧ Below w2.heap.size w2 wr) (fun i _ => k - (intOf i).toNat)
      case atStart => exact ⟨0, by omega, rfl, Below.refl _ _⟩
      case round =>
        obtain ⟨j, hj, rfl, hf4⟩ := hrel
        by_cases hltj : j < k
        · have cx := fresh_cell hf4 (HX.out j hltj)
          have cg := fresh_cell hf4 (HG.out j hltj)
          have cl := fresh_cell hf4 (HL.out j hltj)
          have bGj := BG.out j
          have hcs := nrm_cases (x := f j) (g := G j) (l := nrm f G k j) (nrm_neg bGj.1 bGj.2) (nrm_pos bGj.1 bGj.2) (nrm_zero bGj.1 bGj.2)
          have hlb := nrm_bd f G k j
          have HM : Hid (∀ i, G i = G j → 0 < G j → f i ≤ f j → nrm f G k i ≤ nrm f G k j) := fun i a b c => nrm_mono bGj.1 bGj.2 a b c
          generalize hx : f j = x at *
          generalize hg : G j = y at *
          generalize hl : nrm f G k j = l at *
          clear hx hg hl
          have HCS := hidd hcs
          clear hcs
          have hl8 : (l == -128) = false := by simp; omega
          go_upto_region 19 with fail
          go_cut [16] (fun s wx => wx = wr ∧ s = .bool (ngB x y))
          case first =>
            as_aux_lemma =>
              rcases sgn x y with ⟨h1, h2, e⟩ | ⟨h1, h2, e⟩ | ⟨h1, h2, e⟩ | ⟨h1, h2, e⟩ | ⟨h1, e⟩
              all_goals
                have E := hidd e
                clear e
                go_wp2_with fail
                go_meet
                case rel => exact ⟨rfl, by rw [E.out]⟩
          case rest =>
            obtain ⟨hw, hs⟩ := hcut
            subst hs
            rw [hw]
            clear hw wc
            go_upto_region 20 with fail
            go_cut [17] (fun s wx => wx = wr ∧ s = .bool (nnB x y))
            case first =>
              as_aux_lemma =>
                rcases sgz x y with ⟨h1, e⟩ | ⟨h1, h2, e⟩ | ⟨h1, h2, e⟩
                all_goals
                  have E := hidd e
                  clear e
                  go_wp2_with fail
                  go_meet
                  case rel => exact ⟨rfl, by rw [E.out]⟩
            case rest =>
              obtain ⟨hw, hs⟩ := hcut
              subst hs
              rw [hw]
              clear hw wc
              go_upto_region 21 with fail
              go_cut [16, 17, 152] (fun _ _ s wx => wx = wr ∧ s = .bool false)
              case first =>
                as_aux_lemma =>
                  have hng := ng_of x y
                  have hnn := nn_of x y
                  rcases HCS.out with ⟨h1, h2, h3⟩ | ⟨h1, h2, h3⟩ | ⟨h1, h3⟩ | ⟨h1, h2, h3⟩ | ⟨h1, h2, h3⟩ | ⟨h1, h2, h3⟩ | ⟨h1, h2, h3⟩ | ⟨h1, h2, h3⟩ | ⟨h1, h2, h3⟩
                  · have n1 : ngB x y = true := hng.1 (.inl ⟨h1, h2⟩)
                    have n2 : nnB x y = false := hnn.2 ⟨by omega, by omega⟩
                    have e3 : (l == 0) = false := by simp; omega
                    clear hng hnn
                    go_wp2_with fail
                    go_meet
                    case rel => exact ⟨rfl, by first | rfl | exact vb (by simp; omega)⟩
                  · have n1 : ngB x y = true := hng.1 (.inr ⟨h1, h2⟩)
                    have n2 : nnB x y = false := hnn.2 ⟨by omega, by omega⟩
                    have e3 : (l == 0) = false := by simp; omega
                    clear hng hnn
                    go_wp2_with fail
                    go_meet
                    case rel => exact ⟨rfl, by first | rfl | exact vb (by simp; omega)⟩
                  · have n1 : ngB x y = false := hng.2 (by omega)
                    have n2 : nnB x y = true := hnn.1 (.inl h1)
                    subst h3
                    clear hng hnn h1
                    go_wp2_with fail
                    go_meet
                    case rel => exact ⟨rfl, by first | rfl | exact vb (by simp; omega)⟩
                  · have n1 : ngB x y = false := hng.2 (by omega)
                    have n2 : nnB x y = true := hnn.1 (.inr h2)
                    subst h3
                    clear hng hnn h2
                    go_wp2_with fail
                    go_meet
                    case rel => exact ⟨rfl, by first | rfl | exact vb (by simp; omega)⟩
                  · have n1 : ngB x y = false := hng.2 (by omega)
                    have n2 : nnB x y = true := hnn.1 (.inr h2)
                    subst h3
                    clear hng hnn h2
                    go_wp2_with fail
                    go_meet
                    case rel => exact ⟨rfl, by first | rfl | exact vb (by simp; omega)⟩
                  · have n1 : ngB x y = false := hng.2 (by omega)
                    have n2 : nnB x y = false := hnn.2 ⟨by omega, by omega⟩
                    subst h3
                    clear hng hnn
                    go_wp2_with fail
                    go_meet
                    case rel => exact ⟨rfl, by first | rfl | exact vb (by simp; omega)⟩
                  · have n1 : ngB x y = false := hng.2 (by omega)
                    have n2 : nnB x y = false := hnn.2 ⟨by omega, by omega⟩
                    have e3 : (l == 0) = false := by simp; omega
                    clear hng hnn
                    go_wp2_with fail
                    go_meet
                    case rel => exact ⟨rfl, by first | rfl | exact vb (by simp; omega)⟩
                  · have n1 : ngB x y = false := hng.2 (by omega)
                    have n2 : nnB x y = false := hnn.2 ⟨by omega, by omega⟩
                    subst h3
                    clear hng hnn
                    go_wp2_with fail
                    go_meet
                    case rel => exact ⟨rfl, by first | rfl | exact vb (by simp; omega)⟩
                  · have n1 : ngB x y = false := hng.2 (by omega)
                    have n2 : nnB x y = false := hnn.2 ⟨by omega, by omega⟩
                    have e3 : (l == 0) = false := by simp; omega
                    clear hng hnn
                    go_wp2_with fail
                    go_meet
                    case rel => exact ⟨rfl, by first | rfl | exact vb (by simp; omega)⟩
              case rest =>
                obtain ⟨hw, hs⟩ := hcut
                subst hs
                rw [hw]
                clear hw wc hl8 hlb
                go_wp2
                have cx' := hidd cx
                have cg' := hidd cg
                have cl' := hidd cl
                clear cx cg cl
                go_loopw [18] (fun i w5 => ∃ z : Nat, z ≤ k ∧ i = .int .i64 z ∧ Below wr.heap.size wr w5) (fun i _ => k - (intOf i).toNat)
                case atStart => exact ⟨0, by omega, rfl, Below.refl _ _⟩
                case round =>
                  as_aux_lemma =>
                    obtain ⟨z, hz, rfl, hf5⟩ := hrel
                    by_cases hltz : z < k
                    · have ax := fresh_cell hf5 cx'.out
                      have ag := fresh_cell hf5 cg'.out
                      have al := fresh_cell hf5 cl'.out
                      have zx := fresh_cell hf5 (fresh_cell hf4 (HX.out z hltz))
                      have zg := fresh_cell hf5 (fresh_cell hf4 (HG.out z hltz))
                      have zl := fresh_cell hf5 (fresh_cell hf4 (HL.out z hltz))
                      have hm := HM.out z
                      generalize f z = fz at *
                      generalize G z = gz at *
                      generalize nrm f G k z = lz at *
                      by_cases hgz : gz = y
                      · rw [hgz] at zg hm
                        clear hgz
                        have eg : (y == y) = true := by simp
                        by_cases hy : 0 < y
                        · by_cases hfz : fz ≤ x
                          · have hll := hm rfl hy hfz
                            clear hm
                            go_wp2
                            go_quiet (fail)
                            go_wp2
                            go_roundw
                            case rel => exact ⟨z + 1, hltz, by go_num, below_drewN hf5 _⟩
                            case measure => simp [intOf]; omega
                          · clear hm
                            have hd1 : decide (fz ≤ x) = false := by simpa using hfz
                            go_wp2
                            go_quiet (fail)
                            go_wp2
                            go_roundw
                            case rel => exact ⟨z + 1, hltz, by go_num, below_drewN hf5 _⟩
                            case measure => simp [intOf]; omega
                        · clear hm
                          have hd1 : decide (0 < y) = false := by simpa using hy
                          go_wp2
                          go_quiet (fail)
                          go_wp2
                          go_roundw
                          case rel => exact ⟨z + 1, hltz, by go_num, below_drewN hf5 _⟩
                          case measure => simp [intOf]; omega
                      · have eg : (gz == y) = false := by simpa using hgz
                        clear hm
                        go_wp2
                        go_quiet (fail)
                        go_wp2
                        go_roundw
                        case rel => exact ⟨z + 1, hltz, by go_num, below_drewN hf5 _⟩
                        case measure => simp [intOf]; omega
                    · go_wp2
                      go_roundw
                      case rel => exact ⟨j + 1, hltj, by go_num, fresh_trans hf4 hf5⟩
                      case measure => simp [intOf]; omega
        · have hx4 := hx3.fresh hf4
          have hg4 := hg3.fresh hf4
          have hl4 := hrL.fresh hf4
          have hd4 := hd3.fresh hf4
          have hF4 := fresh_trans hF3 hf4
          clear hx3 hg3 hrL hd3 hF3 hf4 HX HG HL
          go_wp2_with fail
          refine (order_any hd4 (by omega)).mono ?_
          rintro e w5 ⟨pv, p, rfl, hp, ⟨po, pc, rfl, hrp⟩, hf5⟩
          have hF5 := fresh_trans hF4 hf5
          obtain ⟨bp, op, rfl, hcp⟩ := hrp.one hn0
          obtain ⟨bx', ox', ex, hcx⟩ := (hx4.fresh hf5).one hn0
          obtain ⟨bg', og', eg, hcg⟩ := (hg4.fresh hf5).one hn0
          obtain ⟨bl', ol', el, hcl⟩ := (hl4.fresh hf5).one hn0
          simp only [Option.some.injEq, Addr.mk.injEq, and_true] at ex eg el
          obtain ⟨rfl, rfl⟩ := ex
          obtain ⟨rfl, rfl⟩ := eg
          obtain ⟨rfl, rfl⟩ := el
          simp only [Nat.zero_add] at hcl
          have HP := hidd hcp
          have HX := hidd hcx
          have HG := hidd hcg
          have HL := hidd hcl
          have hpl := hidd hp.lt
          clear hcp hcx hcg hcl hx4 hg4 hl4 hd4 hF4 hf5
          go_wp2
          go_loopw [20, 21, 22, 23] (fun y hh l i wt => ∃ t : Nat, t ≤ k ∧ i = .int .i64 t ∧ Own wt w5.heap.size 2 1 y t (fun i => .int .i64 (f (p i))) ∧ Own wt w5.heap.size 32 1 hh t (fun i => .int .i8 (G (p i))) ∧ Own wt w5.heap.size 32 1 l t (fun i => .int .i8 (nrm f G k (p i))) ∧ Off y hh ∧ Off y l ∧ Off hh l ∧ Below w5.heap.size w5 wt) (fun _ _ _ i _ => k - (intOf i).toNat)
          case atStart => exact ⟨0, by omega, rfl, own_nil _ _ _ _ _, own_nil _ _ _ _ _, own_nil _ _ _ _ _, off_nil _, off_nil _, off_nil _, Below.refl _ _⟩
          case round =>
            as_aux_lemma =>
              obtain ⟨t, ht, rfl, oy, oh, ol, fyh, fyl, fhl, hft⟩ := hrel
              have hst := hft.size
              by_cases hltt : t < k
              · have hpt := hpl.out t hltt
                have P0 := HP.out t hltt
                have X0 := HX.out _ hpt
                have G0 := HG.out _ hpt
                have L0 := HL.out _ hpt
                have q1 := fresh_cell hft P0
                have q2 := fresh_cell hft X0
                go_wp2_with (at_builtin; refine wpList_app1 _ rfl _ _ 46 rfl _ 2 (.int .i64 0) 8 Try.underlying46 infoI64 rfl _ t _ rfl (oy.kept (fresh_alloc _ _)) _ 1 rfl (new_cell _ _ _) rfl (by omega) (by omega) (by simp; omega) ?_)
                intro y' w6 oy' happ
                have hf6 := happ.below (hft.alloc hst _) (oy.kept (fresh_alloc _ _)) (Nat.le_refl _) (by simp; omega)
                have oh6 := happ.own (oh.kept (fresh_alloc _ _)) fyh
                have ol6 := happ.own (ol.kept (fresh_alloc _ _)) fyl
                have fyh6 := happ.off (oh.kept (fresh_alloc _ _)) fyh
                have fyl6 := happ.off (ol.kept (fresh_alloc _ _)) fyl
                have hs6 := hf6.size
                clear happ oy oh ol fyh fyl q1 q2 hft
                have q1 := fresh_cell hf6 P0
                have q2 := fresh_cell hf6 G0
                go_wp2_with (at_builtin; refine wpList_app1 _ rfl _ _ 23 rfl _ 32 (.int .i8 0) 1 Try.underlying23 infoI8 rfl _ t _ rfl (oh6.kept (fresh_alloc _ _)) _ 1 rfl (new_cell _ _ _) rfl (by omega) (by omega) (by simp; omega) ?_)
                intro h' w7 oh' happ
                have hf7 := happ.below (hf6.alloc hs6 _) (oh6.kept (fresh_alloc _ _)) (Nat.le_refl _) (by simp; omega)
                have oy7 := happ.own (oy'.kept (fresh_alloc _ _)) fyh6.symm
                have ol7 := happ.own (ol6.kept (fresh_alloc _ _)) fhl
                have fyh7 := (happ.off (oy'.kept (fresh_alloc _ _)) fyh6.symm).symm
                have fhl7 := happ.off (ol6.kept (fresh_alloc _ _)) fhl
                have hs7 := hf7.size
                clear happ oy' oh6 ol6 fyh6 fhl q1 q2 hf6
                have q1 := fresh_cell hf7 P0
                have q2 := fresh_cell hf7 L0
                go_wp2_with (at_builtin; refine wpList_app1 _ rfl _ _ 23 rfl _ 32 (.int .i8 0) 1 Try.underlying23 infoI8 rfl _ t _ rfl (ol7.kept (fresh_alloc _ _)) _ 1 rfl (new_cell _ _ _) rfl (by omega) (by omega) (by simp; omega) ?_)
                intro l' w8 ol' happ
                have hf8 := happ.below (hf7.alloc hs7 _) (ol7.kept (fresh_alloc _ _)) (Nat.le_refl _) (by simp; omega)
                have oy8 := happ.own (oy7.kept (fresh_alloc _ _)) fyl6.symm
                have oh8 := happ.own (oh'.kept (fresh_alloc _ _)) fhl7.symm
                have fyl8 := (happ.off (oy7.kept (fresh_alloc _ _)) fyl6.symm).symm
                have fhl8 := (happ.off (oh'.kept (fresh_alloc _ _)) fhl7.symm).symm
                clear happ oy7 oh' ol7 fyl6 fhl7 q1 q2 hf7 P0 X0 G0 L0
                go_wp2
                go_roundw
                case rel => exact ⟨t + 1, by omega, by go_num, oy8, oh8, ol', fyh7, fyl8, fhl8, hf8⟩
                case measure => simp [intOf]; omega
              · obtain rfl : t = k := by omega
                obtain ⟨yo, yc, rfl, hry⟩ := oy.rd
                obtain ⟨ho, hc, rfl, hrh⟩ := oh.rd
                obtain ⟨lo, lc, rfl, hrl⟩ := ol.rd
                clear oy oh ol fyh fyl fhl hst HP HX HG HL
                go_wp2_with fail
                refine (norm_ok hry hrh (fun i hi => BF.out _ (hpl.out i hi)) (fun i _ => BG.out _) hn0 (by omega)).mono ?_
                rintro e w6 ⟨bm, Fm, rfl, hbm, hrm, hFm, hf6⟩
                have hrM := (rowIs_rd hrm (by unfold maxLen; omega)).congr (cs' := fun i => .int .i8 (nrm (fun j => f (p j)) (fun j => G (p j)) t i)) (fun j hj => hFm j (by omega))
                have hrl6 := hrl.fresh hf6
                have hF6 := fresh_trans (fresh_trans hF5 hft) hf6
                clear hry hrh hrl hrm hFm hbm hf6 hft hF5
                go_wp2_with fail
                refine (eqNarrow_same hrM hrl6 (fun i _ => nrm_perm hp i)).mono ?_
                rintro e w7 ⟨rfl, hf7⟩
                go_wp2
                go_ret
                exact ⟨rfl, fresh_trans hF6 hf7⟩
end Go.Proofs.Ytonhnlahpfkalaa
