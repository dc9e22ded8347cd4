import Derived.Test.YtemmghneohnigaaDoorWpN
namespace Go.Proofs.YtemmghneohnigaaDoor
open Go.RowKit
/-! WireHeads, the law. -/
set_option maxRecDepth 20000 in
set_option maxHeartbeats 4000000 in
theorem heads_law {w : World} {ao : Option Addr} {cap : Nat} {b r : List Int} {c : Int} (hr : RdA w ao 1 b.length cap (byc b)) (hb : Byt b) (hbl : b.length ≤ 2097152) (hrB : Byt r) (hrl : r.length ≤ 2097152) (hE : Env w) :
    Calls Tryd.prog 3 #[.slice ao b.length cap, .string (strOfNums r), .int .i64 c] w fun e w' => e = .returned (.bool true) ∧ Below w.heap.size w w' := by
  have hpl := pies_len b
  have hll := lit_len b
  have hpb : (pies b).length ≤ 4 * b.length := by omega
  have hbig := hE.big
  have HE := hidd hE
  have HR := hidd hr
  have HBy := hidd hb
  have hlb := lit_byt hb
  have has := lit_asc hb
  have HQU := hidd (fun (w1 : World) (h : RdA w1 ao 1 b.length cap (byc b)) => quote_any h hb (by omega))
  have happ := str_app (lit b) r
  have HUO := hidd (fun (w1 : World) (hE1 : Errs w1) => unq_ok (t := lit b ++ r) (hlb.app hrB) (by simp; omega) (UnqP.of hb) hE1)
  have HAS := hidd (fun (w1 : World) => ascii_any (t := lit b) has (by omega) w1)
  have HCU := hidd (fun (K : Nat) (hK : K < (lit b).length) (w1 : World) (hE1 : Errs w1) => unq_bad (t := (lit b).take K) (hlb.take K) (by rw [List.length_take]; omega) (cut_none hb hK) hE1)
  have HEX : Hid (∀ K, (strOfNums (lit b)).extract 0 K = strOfNums ((lit b).take K)) := fun K => by rw [str_ext]; simp
  have hsz : (strOfNums (lit b)).size = (lit b).length := strOfNums_size _
  have hrz : (strOfNums r).size = r.length := strOfNums_size _
  obtain ⟨bl, ebl⟩ : ∃ n, n = b.length := ⟨_, rfl⟩
  have EBL := hidd ebl
  rw [← happ] at HUO
  rw [← ebl] at HR HQU HUO hbl hpl hpb ⊢
  generalize strOfNums (lit b) = s at *
  generalize strOfNums r = sr at *
  obtain ⟨LL, eLL⟩ : ∃ n, n = (lit b).length := ⟨_, rfl⟩
  rw [← eLL] at HUO HCU hsz hll
  clear ebl eLL hlb has happ hE hr hrB
  have hL2 : bl + 2 ≤ LL := by omega
  have hL4 : LL ≤ 8388610 := by omega
  clear hpl hll hpb hb
  go_enter Tryd.func3, Tryd.ntmps3
  go_upto_region 2 with (go_at_call 8; with_reducible refine (works_any HE.out).mono ?_; rintro e w1 ⟨rfl, hf1⟩)
  have HE1 := hidd (HE.out.fresh hf1)
  have HR1 := hidd (HR.out.fresh hf1)
  have HF1 := hidd hf1
  clear hf1
  go_upto_region 3 with (go_at_call 9; with_reducible refine (HQU.out _ HR1.out).mono ?_; rintro e w2 ⟨rfl, hf2⟩)
  have HE2 := hidd (HE1.out.fresh hf2)
  have HR2 := hidd (HR1.out.fresh hf2)
  have HF2 := hidd (fresh_trans HF1.out hf2)
  clear hf2
  go_upto_region 4 with (go_at_call 10; with_reducible refine (HUO.out _ HE2.out.errs).mono ?_; rintro e w3 ⟨co, cc, rfl, ho3, hf3⟩)
  obtain ⟨_, _, e3, hr3⟩ := ho3.rd
  cases e3
  have HE3 := hidd (HE2.out.fresh hf3)
  have HQ := hidd (eqBytes_same hr3 (HR2.out.fresh hf3) (fun i _ => rfl))
  have HF3 := hidd (fresh_trans HF2.out hf3)
  clear hf3 hr3 ho3
  have hL0 : (LL : Int) ≠ 0 := by omega
  have hm1 : c.tmod (LL : Int) < (LL : Int) := Int.tmod_lt_of_pos c (by omega)
  have hm2 : -(LL : Int) < c.tmod (LL : Int) := by
    have := Int.tmod_lt_of_pos (-c) (show (0 : Int) < (LL : Int) by omega)
    rw [Int.neg_tmod] at this
    omega
  obtain ⟨m, em⟩ : ∃ m, m = c.tmod (LL : Int) := ⟨_, rfl⟩
  have hw1 : IntKind.i64.wrap (c.tmod (LL : Int)) = m := by rw [← em, IntKind.wrap_i64]; omega
  rw [← em] at hm1 hm2
  have hn1 : ¬ (LL : Int) < (bl : Int) + 2 := by omega
  have hd1 : decide ((LL : Int) < (bl : Int) + 2) = false := by simp; omega
  have hw2 : IntKind.i64.wrap ((bl : Int) + 2) = (bl : Int) + 2 := by rw [IntKind.wrap_i64]; omega
  go_upto_region 7 with (first | (go_at_call 11; with_reducible refine (HQ.out).mono ?_; rintro e w4 ⟨rfl, hf4⟩) | (go_at_call 12; with_reducible refine (HAS.out _).mono ?_; rintro e w5 ⟨rfl, hf5⟩))
  have HE5 := hidd ((HE3.out.fresh hf4).fresh hf5)
  have HF5 := hidd (fresh_trans HF3.out (fresh_trans hf4 hf5))
  clear hf4 hf5
  clear hw1
  have HEM := hidd em
  clear em
  go_upto_region 8 with fail
  rw [← HEM.out]
  clear HEM
  by_cases hneg : m < 0
  · have HC := hidd (fun w1 hE1 => HCU.out (m + (LL : Int)).toNat (by omega) w1 hE1)
    rw [← HEX.out (m + (LL : Int)).toNat] at HC
    have hd2 : decide (m < 0) = true := by simp; omega
    have hw3 : IntKind.i64.wrap (m + (LL : Int)) = m + (LL : Int) := by rw [IntKind.wrap_i64]; omega
    have hk0 : (0 : Int) ≤ m + (LL : Int) := by omega
    have hk1 : m + (LL : Int) ≤ (LL : Int) := by omega
    go_upto_region 11 with (go_at_call 10; with_reducible refine (HC.out _ HE5.out.errs).mono ?_; rintro e w6 ⟨rfl, hf6⟩)
    have HF6 := hidd (fresh_trans HF5.out hf6)
    clear hf6
    go_wp2
    go_ret
    exact ⟨rfl, HF6.out⟩
  · obtain ⟨K, rfl⟩ := Int.eq_ofNat_of_zero_le (show 0 ≤ m by omega)
    have HC := hidd (fun w1 hE1 => HCU.out K (by omega) w1 hE1)
    rw [← HEX.out K] at HC
    have hKL : K ≤ LL := by omega
    have hk0 : (0 : Int) ≤ (K : Int) := Int.natCast_nonneg _
    have hk1 : (K : Int) ≤ (LL : Int) := by omega
    have hd2 : decide ((K : Int) < 0) = false := by simp
    go_upto_region 11 with (go_at_call 10; with_reducible refine (HC.out _ HE5.out.errs).mono ?_; rintro e w6 ⟨rfl, hf6⟩)
    have HF6 := hidd (fresh_trans HF5.out hf6)
    clear hf6
    go_wp2
    go_ret
    exact ⟨rfl, HF6.out⟩
end Go.Proofs.YtemmghneohnigaaDoor
