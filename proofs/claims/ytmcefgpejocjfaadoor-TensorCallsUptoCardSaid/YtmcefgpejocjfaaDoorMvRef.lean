import Derived.Test.YtmcefgpejocjfaaDoorMv
import Derived.Test.YtmcefgpejocjfaaDoorMatsRef2
namespace Go.Proofs.YtmcefgpejocjfaaDoor
open Go.RowKit
/-! The reference's MatVec. -/
theorem row_prods {R C n k : Nat} (hn : n = R * C) (hk : k < R) : ∃ lo : Nat, lo = k * C ∧ lo + C ≤ n ∧ (k : Int) * (C : Int) = (lo : Int) := by
  have h1 : k * C + C ≤ R * C := by
    have := Nat.mul_le_mul_right C (show k + 1 ≤ R by omega)
    rw [Nat.add_mul, Nat.one_mul] at this; exact this
  exact ⟨k * C, rfl, by omega, (Int.natCast_mul _ _).symm⟩
set_option maxHeartbeats 4000000 in
theorem matvec_rok {w : World} {R C : Nat} {ao bo : Option Addr} {n ca cb : Nat} {f g : Nat → Int} (ha : RdA w ao 1 n ca (fun i => .int .i8 (f i))) (hb : RdA w bo 1 C cb (fun i => .int .i8 (g i)))
    (hs : shp (R : Int) (C : Int) n = true) (hf : ∀ i, i < n → -127 ≤ f i ∧ f i ≤ 127) (hg : ∀ i, i < C → -128 ≤ g i ∧ g i ≤ 127) (hR : R * 8 ≤ 140737488351232) :
    Calls Tryd.prog 46 #[.agg #[.int .i64 (R : Int), .int .i64 (C : Int), .slice ao n ca], .slice bo C cb] w fun e w' => ∃ v, e = .returned (.tuple #[v, .int .i64 0]) ∧ Own w' w.heap.size 2 1 v R (fun r => .int .i64 (mv f g C r)) ∧ Below w.heap.size w w' := by
  have hn : n ≤ 9223372036854775807 := by have := ha.le; have := ha.top; unfold maxLen at this; omega
  obtain ⟨hR1, hC1, hmul⟩ := shp_mul hs
  have HM := hidd hmul
  have hC2 : C ≤ 9223372036854775807 := by have := hb.le; have := hb.top; unfold maxLen at this; omega
  have hne : ((C : Int) != (C : Int)) = false := by simp
  have HF := hidd hf
  have HG := hidd hg
  have qc := check_rdata (ha.fresh (fresh_alloc w (.cells #[.int .i64 (R : Int), .int .i64 (C : Int), .slice ao n ca] 28))) hs (fun i hi => by have := hf i hi; omega) true ⟨fun _ i hi => (hf i hi).1, fun _ => rfl⟩
  clear hmul hf hg
  go_enter Tryd.func46, Tryd.ntmps46
  go_wp2_with fail
  refine qc.mono ?_
  rintro e w1 ⟨rfl, hb1⟩
  have H1 := fresh_trans (fresh_alloc w _) hb1
  have hs1 := H1.size
  have c0 := fresh_cell hb1 (k := w.heap.size) (o := 0) (v := .int .i64 (R : Int)) (by simp)
  have c1 := fresh_cell hb1 (k := w.heap.size) (o := 1) (v := .int .i64 (C : Int)) (by simp)
  have c2 := fresh_cell hb1 (k := w.heap.size) (o := 2) (v := .slice ao n ca) (by simp)
  replace ha := ha.fresh H1
  replace hb := hb.fresh H1
  clear hb1 qc
  go_wp2
  have C0 := hidd c0
  have C1 := hidd c1
  have C2 := hidd c2
  clear c0 c1 c2 hne
  go_loopw [7, 8] (fun v i wr => ∃ k : Nat, k ≤ R ∧ i = .int .i64 k ∧ Own wr w1.heap.size 2 1 v k (fun r => .int .i64 (mv f g C r)) ∧ Below w1.heap.size w1 wr) (fun _ i _ => R - (intOf i).toNat)
  case atStart => exact ⟨0, by omega, rfl, own_nil _ _ _ _ _, Below.refl _ _⟩
  case round =>
    obtain ⟨k, hk, rfl, hown, hf1⟩ := hrel
    have hsz := hf1.size
    have c0 := fresh_cell hf1 C0.out
    by_cases hlt : k < R
    · obtain ⟨lo, hlo, hlb, hp⟩ := row_prods HM.out hlt
      have HL := hidd hlo
      have HP := hidd hp
      clear hlo hp
      go_wp2
      clear c0
      go_loopw [9, 10] (fun s i wc => ∃ t : Nat, t ≤ C ∧ i = .int .i64 t ∧ s = .int .i64 (dot (fun c => f (lo + c)) g t) ∧ Below wr.heap.size wr wc) (fun _ i _ => C - (intOf i).toNat)
      case atStart => exact ⟨0, by omega, rfl, by rw [dot_zero], Below.refl _ _⟩
      case round =>
        obtain ⟨t, ht, rfl, rfl, hfc⟩ := hrel
        have hfd := fresh_trans hf1 hfc
        have c1 := fresh_cell hfd C1.out
        by_cases hltt : t < C
        · obtain ⟨b1, o1, rfl, h1⟩ := (ha.fresh hfd).one (by omega)
          obtain ⟨b2, o2, rfl, h2⟩ := (hb.fresh hfd).one (by omega)
          have c2 := fresh_cell hfd C2.out
          have q1 := h1 (lo + t) (by omega)
          have q2 := h2 t hltt
          have bf := HF.out (lo + t) (by omega)
          have bg := HG.out t hltt
          have E := hidd (dot_succ (fun c => f (lo + c)) g t)
          have E' := hidd (dot_succ' (fun c => f (lo + c)) g t)
          have hp := HP.out
          clear h1 h2
          go_wp2
          go_quiet (fail)
          go_wp2
          clear hp
          go_roundw
          case rel => exact ⟨t + 1, by omega, by go_num, by first | rw [E.out] | rw [E'.out], below_drewN hfc _⟩
          case measure => simp [intOf]; omega
        · have htC : t = C := by omega
          subst htC
          have hmv : Hid (dot (fun c => f (lo + c)) g t = mv f g t k) := by
            show _ = _
            unfold mv
            rw [HL.out]
          have ho := hown.kept hfc
          have hsd := hfd.size
          clear hown hf1 hfc
          rw [hmv.out]
          go_wp2_with (at_builtin; refine wpList_app1 _ rfl _ _ 29 rfl _ 2 (.int .i64 0) 8 Tryd.underlying29 infoI64 rfl _ k _ rfl (ho.kept (fresh_alloc _ _)) _ 1 rfl (new_cell _ _ _) rfl (by omega) (by omega) (by simp; omega) ?_)
          intro v' w6 hown' happ
          have hf6 := happ.below (hfd.alloc hsd _) (ho.kept (fresh_alloc _ _)) (Nat.le_refl _) (by simp; omega)
          clear happ ho hfd c1
          go_wp2
          go_roundw
          case rel => exact ⟨k + 1, by omega, by go_num, hown', hf6⟩
          case measure => simp [intOf]; omega
    · have hkR : k = R := by omega
      rw [hkR] at hown
      go_wp2
      go_ret2
      exact ⟨_, rfl, hown.weaken hs1, fresh_trans H1 hf1⟩
end Go.Proofs.YtmcefgpejocjfaaDoor
