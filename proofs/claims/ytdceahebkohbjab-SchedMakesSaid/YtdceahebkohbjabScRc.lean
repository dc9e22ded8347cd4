import Derived.Test.YtdceahebkohbjabScRb
namespace Go.Proofs.Ytdceahebkohbjab
open Go.RowKit
/-! The reference's plan: younger. -/
def cdY (S : Nat → Se) (id : Int) (out : Int → Bool) (p : Nat) : Prop := id < (S p).id ∧ 0 < (S p).hn ∧ out (S p).id = false
/-- the youngest of the first j that may be put out -/
def YgR (S : Nat → Se) (j : Nat) (id : Int) (out : Int → Bool) (b : Int) : Prop := (b = -1 ∧ ∀ p, p < j → ¬ cdY S id out p) ∨ ∃ q : Nat, q < j ∧ b = (q : Int) ∧ cdY S id out q ∧ ∀ p, p < j → cdY S id out p → (S p).id ≤ (S q).id
theorem YgR.skip {S : Nat → Se} {j : Nat} {id : Int} {out : Int → Bool} {b : Int} (h : YgR S j id out b) (hc : ¬ cdY S id out j) : YgR S (j + 1) id out b := by
  rcases h with ⟨h1, h2⟩ | ⟨q, h1, h2, h3, h4⟩
  · exact .inl ⟨h1, fun p hp => by
      by_cases e : p = j
      · rw [e]; exact hc
      · exact h2 p (by omega)⟩
  · exact .inr ⟨q, by omega, h2, h3, fun p hp hcp => by
      by_cases e : p = j
      · rw [e] at hcp; exact absurd hcp hc
      · exact h4 p (by omega) hcp⟩
theorem YgR.keep {S : Nat → Se} {j : Nat} {id : Int} {out : Int → Bool} {q : Nat} (h : YgR S j id out (q : Int)) (hc : (S j).id ≤ (S q).id) : YgR S (j + 1) id out (q : Int) := by
  rcases h with ⟨h1, _⟩ | ⟨q', h1, h2, h3, h4⟩
  · omega
  · obtain rfl : q = q' := by omega
    exact .inr ⟨q, by omega, rfl, h3, fun p hp hcp => by
      by_cases e : p = j
      · rw [e]; exact hc
      · exact h4 p (by omega) hcp⟩
theorem YgR.take {S : Nat → Se} {j : Nat} {id : Int} {out : Int → Bool} {b : Int} (h : YgR S j id out b) (hc : cdY S id out j) (hb : b < 0 ∨ ∃ q : Nat, b = (q : Int) ∧ (S q).id < (S j).id) : YgR S (j + 1) id out (j : Int) :=
  .inr ⟨j, by omega, rfl, hc, fun p hp hcp => by
    by_cases e : p = j
    · rw [e]; exact Int.le_refl _
    · rcases h with ⟨_, h2⟩ | ⟨q, _, h2, _, h4⟩
      · exact absurd hcp (h2 p (by omega))
      · rcases hb with hb | ⟨q', e1, e2⟩
        · omega
        · obtain rfl : q = q' := by omega
          have := h4 p (by omega) hcp
          omega⟩
set_option maxRecDepth 20000 in
set_option maxHeartbeats 8000000 in
theorem ryounger_any {w : World} {g : Nat} {c : Me} {so : Option Addr} {n sc : Nat} {ov : Value} {gv lf : Int} {S : Nat → Se} (hw : WkA w g c so n sc ov gv lf) (hS : SeA w so n sc S) (hn : n ≤ 16) {qo : Option Addr} {k qc : Nat} {Q : Nat → Int} (hQ : RdA w qo 1 k qc (fun i => .int .i64 (Q i))) (id : Int) :
    Calls Try.prog 55 #[.pointer (some ⟨g, 0, none⟩), .int .i64 id, .slice qo k qc] w fun e w' => ∃ b, e = .returned (.int .i64 b) ∧ YgR S n id (hasI Q k) b ∧ Below w.heap.size w w' := by
  have HS := hidd hS
  have HQ := hidd hQ
  have HC : Hid (∀ z, Below w.heap.size w z → z.cell? ⟨g, 5, none⟩ = some (.slice so n sc)) := fun z hz => World.rowIs.cell (hw.fresh hz) (i := 5) (by decide)
  have HAM := hidd (fun (z : World) (hz : Below w.heap.size w z) (x : Int) => ramong_any (HQ.out.fresh hz) x)
  clear hw hS hQ
  go_enter Try.func55, Try.ntmps55
  go_wp2
  go_loopw [7, 8] (fun v i wr => ∃ (j : Nat) (b : Int), j ≤ n ∧ i = .int .i64 j ∧ v = .int .i64 b ∧ Hid (YgR S j id (hasI Q k) b) ∧ Hid (Below w.heap.size w wr)) (fun _ i _ => n - (intOf i).toNat)
  case atStart => exact ⟨0, -1, by omega, rfl, rfl, .inl ⟨rfl, fun p hp => absurd hp (by omega)⟩, Below.refl _ _⟩
  case round =>
    obtain ⟨j, b, hj, rfl, rfl, HY, HB⟩ := hrel
    have c5 := HC.out wr HB.out
    by_cases hjn : j < n
    · obtain ⟨b1, o1, rfl, hc1⟩ := (HS.out.fresh HB.out).rd.seat (by omega)
      obtain ⟨x0, x1, x2, x3, x4⟩ := hc1 j hjn
      have HC1 := hidd hc1
      clear hc1
      have j0 : (0 : Int) ≤ (j : Int) := by omega
      have j1 : (j : Int) < (n : Int) := by omega
      go_upto_region 6 with fail
      have HF3 := hidd (fresh_alloc wr (.cells #[.int .i64 (S j).id, .int .i64 (S j).kn, .int .i64 (S j).ca, .int .i64 (S j).wa, .slice (S j).ho (S j).hn (S j).hc] 32))
      have HB3 := hidd (HB.out.trans (HF3.out.mono HB.out.size))
      obtain ⟨t0, _, _, _, t4⟩ := box5 wr (.int .i64 (S j).id) (.int .i64 (S j).kn) (.int .i64 (S j).ca) (.int .i64 (S j).wa) (.slice (S j).ho (S j).hn (S j).hc) 32
      have c5b := fresh_cell HF3.out c5
      have HQ0 : Hid (∀ q, q < n → (wr.alloc (.cells #[.int .i64 (S j).id, .int .i64 (S j).kn, .int .i64 (S j).ca, .int .i64 (S j).wa, .slice (S j).ho (S j).hn (S j).hc] 32)).cell? ⟨b1, o1 + q * 5, none⟩ = some (.int .i64 (S q).id)) := fun q hq => fresh_cell HF3.out (HC1.out q hq).1
      have hbq : b = -1 ∨ ∃ q : Nat, q < n ∧ b = (q : Int) := by
        rcases HY.out with ⟨h1, _⟩ | ⟨q, h1, h2, _⟩
        · exact .inl h1
        · exact .inr ⟨q, by omega, h2⟩
      clear x0 x1 x2 x3 x4 c5
      generalize (wr.alloc (.cells #[.int .i64 (S j).id, .int .i64 (S j).kn, .int .i64 (S j).ca, .int .i64 (S j).wa, .slice (S j).ho (S j).hn (S j).hc] 32)) = w3 at *
      obtain ⟨xb, HXB⟩ : ∃ x, Hid (x = wr.heap.size) := ⟨_, rfl⟩
      rw [← HXB.out] at t0 t4 ⊢
      have l0 := later_cell t0
      have l4 := later_cell t4
      have l5 := later_cell c5b
      have ne := later_some w3
      have A1 := hidd (fun z : Later w3 => HAM.out z.val (HB3.out.trans (z.fresh.mono HB3.out.size)) (S j).id)
      have HSK := hidd (fun h : ¬ cdY S id (hasI Q k) j => HY.out.skip h)
      have HTK := hidd (fun (h : cdY S id (hasI Q k) j) (h2 : b < 0 ∨ ∃ q : Nat, b = (q : Int) ∧ (S q).id < (S j).id) => HY.out.take h h2)
      have HCD : Hid (cdY S id (hasI Q k) j ↔ id < (S j).id ∧ 0 < (S j).hn ∧ hasI Q k (S j).id = false) := Iff.rfl
      by_cases a1 : id < (S j).id
      · have d1 : decide (id < (S j).id) = true := decide_eq_true a1
        by_cases a2 : 0 < (S j).hn
        · have d2 : decide (0 < (S j).hn) = true := decide_eq_true a2
          cases a3 : hasI Q k (S j).id with
          | true =>
            rw [a3] at A1
            have RR := hidd (HSK.out (fun q => by have := (HCD.out.1 q).2.2; rw [a3] at this; cases this))
            generalize (S j).id = y0 at *
            generalize (S j).ho = yo at *
            generalize (S j).hn = yn at *
            generalize (S j).hc = yc at *
            clear a1 a2 a3 t0 t4 c5b
            refine wp_region_later (by kernel_rfl) (by kernel_rfl) ?_
            repeat (go_big_quiet_step (fail))
            go_big_quiet_step (exact later_same (A1.out _))
            repeat (go_big_quiet_step (fail))
            refine wpQuiet_nil ?_
            rintro _ ⟨z, rfl⟩
            have HZ := hidd (HB3.out.trans (z.fresh.mono HB3.out.size))
            clear l0 l4 l5 ne A1
            generalize z.val = w4 at *
            go_wp2
            go_roundw
            case rel => exact ⟨j + 1, _, by omega, by go_num, rfl, RR, HZ⟩
            case measure => simp [intOf]; omega
          | false =>
            rw [a3] at A1
            have HCJ := hidd (HCD.out.2 ⟨a1, a2, a3⟩)
            rcases hbq with rfl | ⟨q, hq, rfl⟩
            · have RR := hidd (HTK.out HCJ.out (.inl (by omega)))
              generalize (S j).id = y0 at *
              generalize (S j).ho = yo at *
              generalize (S j).hn = yn at *
              generalize (S j).hc = yc at *
              clear a1 a2 a3 t0 t4 c5b
              refine wp_region_later (by kernel_rfl) (by kernel_rfl) ?_
              repeat (go_big_quiet_step (fail))
              go_big_quiet_step (exact later_same (A1.out _))
              repeat (go_big_quiet_step (fail))
              refine wpQuiet_nil ?_
              rintro _ ⟨z, rfl⟩
              have HZ := hidd (HB3.out.trans (z.fresh.mono HB3.out.size))
              clear l0 l4 l5 ne A1
              generalize z.val = w4 at *
              go_wp2
              go_roundw
              case rel => exact ⟨j + 1, _, by omega, by go_num, rfl, RR, HZ⟩
              case measure => simp [intOf]; omega
            · have lq := later_cell (HQ0.out q hq)
              have q0 : (0 : Int) ≤ (q : Int) := by omega
              have dq : decide ((q : Int) < 0) = false := decide_eq_false (by omega)
              have q1 : (q : Int) < (n : Int) := by omega
              by_cases a4 : (S q).id < (S j).id
              · have d4 : decide ((S q).id < (S j).id) = true := decide_eq_true a4
                have RR := hidd (HTK.out HCJ.out (.inr ⟨q, rfl, a4⟩))
                generalize (S q).id = z0 at *
                generalize (S j).id = y0 at *
                generalize (S j).ho = yo at *
                generalize (S j).hn = yn at *
                generalize (S j).hc = yc at *
                clear a1 a2 a3 a4 t0 t4 c5b
                refine wp_region_later (by kernel_rfl) (by kernel_rfl) ?_
                repeat (go_big_quiet_step (fail))
                go_big_quiet_step (exact later_same (A1.out _))
                repeat (go_big_quiet_step (fail))
                refine wpQuiet_nil ?_
                rintro _ ⟨z, rfl⟩
                have HZ := hidd (HB3.out.trans (z.fresh.mono HB3.out.size))
                clear l0 l4 l5 lq ne A1
                generalize z.val = w4 at *
                go_wp2
                go_roundw
                case rel => exact ⟨j + 1, _, by omega, by go_num, rfl, RR, HZ⟩
                case measure => simp [intOf]; omega
              · have d4 : decide ((S q).id < (S j).id) = false := decide_eq_false a4
                have RR := hidd (HY.out.keep (by omega))
                generalize (S q).id = z0 at *
                generalize (S j).id = y0 at *
                generalize (S j).ho = yo at *
                generalize (S j).hn = yn at *
                generalize (S j).hc = yc at *
                clear a1 a2 a3 a4 t0 t4 c5b
                refine wp_region_later (by kernel_rfl) (by kernel_rfl) ?_
                repeat (go_big_quiet_step (fail))
                go_big_quiet_step (exact later_same (A1.out _))
                repeat (go_big_quiet_step (fail))
                refine wpQuiet_nil ?_
                rintro _ ⟨z, rfl⟩
                have HZ := hidd (HB3.out.trans (z.fresh.mono HB3.out.size))
                clear l0 l4 l5 lq ne A1
                generalize z.val = w4 at *
                go_wp2
                go_roundw
                case rel => exact ⟨j + 1, _, by omega, by go_num, rfl, RR, HZ⟩
                case measure => simp [intOf]; omega
        · have d2 : decide (0 < (S j).hn) = false := decide_eq_false a2
          have RR := hidd (HSK.out (fun q => a2 (HCD.out.1 q).2.1))
          generalize (S j).id = y0 at *
          generalize (S j).ho = yo at *
          generalize (S j).hn = yn at *
          generalize (S j).hc = yc at *
          clear a1 a2 t0 t4 c5b
          refine wp_region_later (by kernel_rfl) (by kernel_rfl) ?_
          repeat (go_big_quiet_step (fail))
          refine wpQuiet_nil ?_
          rintro _ ⟨z, rfl⟩
          have HZ := hidd (HB3.out.trans (z.fresh.mono HB3.out.size))
          clear l0 l4 l5 ne A1
          generalize z.val = w4 at *
          go_wp2
          go_roundw
          case rel => exact ⟨j + 1, _, by omega, by go_num, rfl, RR, HZ⟩
          case measure => simp [intOf]; omega
      · have d1 : decide (id < (S j).id) = false := decide_eq_false a1
        have RR := hidd (HSK.out (fun q => a1 (HCD.out.1 q).1))
        generalize (S j).id = y0 at *
        generalize (S j).ho = yo at *
        generalize (S j).hn = yn at *
        generalize (S j).hc = yc at *
        clear a1 t0 t4 c5b
        refine wp_region_later (by kernel_rfl) (by kernel_rfl) ?_
        repeat (go_big_quiet_step (fail))
        refine wpQuiet_nil ?_
        rintro _ ⟨z, rfl⟩
        have HZ := hidd (HB3.out.trans (z.fresh.mono HB3.out.size))
        clear l0 l4 l5 ne A1
        generalize z.val = w4 at *
        go_wp2
        go_roundw
        case rel => exact ⟨j + 1, _, by omega, by go_num, rfl, RR, HZ⟩
        case measure => simp [intOf]; omega
    · obtain rfl : n = j := by omega
      go_wp2
      go_ret
      exact ⟨b, rfl, HY.out, HB.out⟩
end Go.Proofs.Ytdceahebkohbjab
