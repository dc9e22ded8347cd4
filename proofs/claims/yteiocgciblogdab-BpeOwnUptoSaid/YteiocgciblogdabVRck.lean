import Derived.Test.YteiocgciblogdabVTw
import Derived.Test.YteiocgciblogdabVLen
import Derived.Test.YteiocgciblogdabVTp
namespace Go.Proofs.Yteiocgciblogdab
open Go.RowKit
/-! The reference's Check. -/
/-- the lengths that stand in the table when k pairs are done -/
def VD.szs (d : VD) (n : Nat) : Nat → Value := fun t => .int .i64 (if t < n then ((d.pc t).length : Int) else 0)
theorem zeros64 : ∀ i, i < 64 → (#[Value.int .i64 0, Value.int .i64 0, Value.int .i64 0, Value.int .i64 0, Value.int .i64 0, Value.int .i64 0, Value.int .i64 0, Value.int .i64 0, Value.int .i64 0, Value.int .i64 0, Value.int .i64 0, Value.int .i64 0, Value.int .i64 0, Value.int .i64 0, Value.int .i64 0, Value.int .i64 0, Value.int .i64 0, Value.int .i64 0, Value.int .i64 0, Value.int .i64 0, Value.int .i64 0, Value.int .i64 0, Value.int .i64 0, Value.int .i64 0, Value.int .i64 0, Value.int .i64 0, Value.int .i64 0, Value.int .i64 0, Value.int .i64 0, Value.int .i64 0, Value.int .i64 0, Value.int .i64 0, Value.int .i64 0, Value.int .i64 0, Value.int .i64 0, Value.int .i64 0, Value.int .i64 0, Value.int .i64 0, Value.int .i64 0, Value.int .i64 0, Value.int .i64 0, Value.int .i64 0, Value.int .i64 0, Value.int .i64 0, Value.int .i64 0, Value.int .i64 0, Value.int .i64 0, Value.int .i64 0, Value.int .i64 0, Value.int .i64 0, Value.int .i64 0, Value.int .i64 0, Value.int .i64 0, Value.int .i64 0, Value.int .i64 0, Value.int .i64 0, Value.int .i64 0, Value.int .i64 0, Value.int .i64 0, Value.int .i64 0, Value.int .i64 0, Value.int .i64 0, Value.int .i64 0, Value.int .i64 0] : Array Value)[i]? = some (.int .i64 0) := by
  intro i hi
  rcases i with _ | _ | _ | _ | _ | _ | _ | _ | _ | _ | _ | _ | _ | _ | _ | _ | _ | _ | _ | _ | _ | _ | _ | _ | _ | _ | _ | _ | _ | _ | _ | _ | _ | _ | _ | _ | _ | _ | _ | _ | _ | _ | _ | _ | _ | _ | _ | _ | _ | _ | _ | _ | _ | _ | _ | _ | _ | _ | _ | _ | _ | _ | _ | _ | i
  all_goals first | rfl | omega
theorem VD.szs_base (d : VD) (t : Nat) : Value.int .i64 (if 1 ≤ t ∧ t < d.nb + 1 then 1 else 0) = d.szs (d.nb + 1 + 0) t := by
  unfold VD.szs
  by_cases h0 : t = 0
  · subst h0; rw [d.pc_zero]; simp
  · by_cases h : t < d.nb + 1
    · obtain ⟨i, rfl⟩ : ∃ i, t = i + 1 := ⟨t - 1, by omega⟩
      rw [if_pos (by omega), if_pos (by omega), d.pc_base (by omega)]; rfl
    · rw [if_neg (by omega), if_neg (by omega)]
set_option maxRecDepth 20000 in
set_option maxHeartbeats 2000000 in
theorem rcheck_any {w : World} {d : VD} {bo po : Option Addr} {cb cp : Nat} (hb : RdA w bo 1 d.nb cb (fun i => .int .u8 (d.B i))) (hp : RdA w po 2 d.np cp (tcs d.P d.Q)) (hN : d.np ≤ 8796093022208) (x : Int) (hx : (d.Right ∧ x = 0) ∨ (¬ d.Right ∧ x = 50)) :
    Calls Try.prog 25 #[.agg #[.slice bo d.nb cb, .slice po d.np cp]] w fun e w' => e = .returned (.int .i64 x) ∧ Below w.heap.size w w' := by
  have n1 : d.nb ≤ 9223372036854775807 := by have := hb.le; have := hb.top; unfold maxLen at this; omega
  have GOOD := hidd (show d.Right → x = 0 from fun h => by rcases hx with ⟨_, e⟩ | ⟨n, _⟩; exact e; exact absurd h n)
  have BAD := hidd (show ¬ d.Right → x = 50 from fun h => by rcases hx with ⟨n, _⟩ | ⟨_, e⟩; exact absurd n h; exact e)
  clear hx
  by_cases a1 : d.nb < 1
  · obtain rfl := BAD.out (fun h => absurd h.cnt.1 (by omega))
    go_enter Try.func25, Try.ntmps25
    go_wp2
    go_ret
    exact ⟨rfl, fresh_alloc _ _⟩
  by_cases a2 : 48 < d.nb
  · obtain rfl := BAD.out (fun h => absurd h.cnt.2.1 (by omega))
    go_enter Try.func25, Try.ntmps25
    go_wp2
    go_ret
    exact ⟨rfl, fresh_alloc _ _⟩
  by_cases a3 : 63 < d.np + d.nb
  · obtain rfl := BAD.out (fun h => absurd h.cnt.2.2 (by omega))
    go_enter Try.func25, Try.ntmps25
    go_wp2
    go_ret
    exact ⟨rfl, fresh_alloc _ _⟩
  go_enter Try.func25, Try.ntmps25
  go_wp2
  have hf0 := fresh_alloc w (.cells #[.slice bo d.nb cb, .slice po d.np cp] 25)
  have K1 := hidd (show (w.alloc (.cells #[.slice bo d.nb cb, .slice po d.np cp] 25)).cell? ⟨w.heap.size, 0, none⟩ = some (.slice bo d.nb cb) by simp)
  have K2 := hidd (show (w.alloc (.cells #[.slice bo d.nb cb, .slice po d.np cp] 25)).cell? ⟨w.heap.size, 1, none⟩ = some (.slice po d.np cp) by simp)
  generalize w.alloc (.cells #[.slice bo d.nb cb, .slice po d.np cp] 25) = w1 at *
  go_loopw [3] (fun i wr => ∃ m : Nat, m ≤ d.nb ∧ i = .int .i64 m ∧ Hid (∀ i, i < m → d.newB i) ∧ Below w1.heap.size w1 wr) (fun i _ => d.nb - (intOf i).toNat)
  case atStart => exact ⟨0, by omega, rfl, fun i hi => absurd hi (by omega), Below.refl _ _⟩
  case round =>
    obtain ⟨m, hm, rfl, HN, hfb⟩ := hrel
    have hf := fresh_trans hf0 hfb
    have k1 := fresh_cell hfb K1.out
    have k2 := fresh_cell hfb K2.out
    by_cases hlt : m < d.nb
    · by_cases e : d.newB m
      · have E := hidd e
        clear e
        go_wp2_with fail
        refine (twiceByte_any (d := d) (po := po) (cp := cp) (hb.fresh hf) m hlt (by omega) false ⟨(fun h => nomatch h), fun ⟨i, hi, h⟩ => absurd h (E.out i hi)⟩).mono ?_
        rintro e w2 ⟨rfl, hf2⟩
        have hfb2 := fresh_trans hfb hf2
        clear hf2
        go_wp2
        go_roundw
        case rel => exact ⟨m + 1, by omega, by go_num, fun i hi => if h : i = m then h ▸ E.out else HN.out i (by omega), hfb2⟩
        case measure => simp [intOf]; omega
      · obtain rfl := BAD.out (fun h => e (h.base m hlt))
        have E := hidd e
        clear e
        go_wp2_with fail
        refine (twiceByte_any (d := d) (po := po) (cp := cp) (hb.fresh hf) m hlt (by omega) true ⟨fun _ => Classical.byContradiction fun h => E.out (fun i hi e => h ⟨i, hi, e⟩), fun _ => rfl⟩).mono ?_
        rintro e w2 ⟨rfl, hf2⟩
        have hf3 := fresh_trans hf hf2
        clear hf2
        go_wp2
        go_ret
        exact ⟨rfl, hf3⟩
    · obtain rfl : m = d.nb := by omega
      go_wp2
      have hrow : (wr.alloc (.cells #[Value.int .i64 0, Value.int .i64 0, Value.int .i64 0, Value.int .i64 0, Value.int .i64 0, Value.int .i64 0, Value.int .i64 0, Value.int .i64 0, Value.int .i64 0, Value.int .i64 0, Value.int .i64 0, Value.int .i64 0, Value.int .i64 0, Value.int .i64 0, Value.int .i64 0, Value.int .i64 0, Value.int .i64 0, Value.int .i64 0, Value.int .i64 0, Value.int .i64 0, Value.int .i64 0, Value.int .i64 0, Value.int .i64 0, Value.int .i64 0, Value.int .i64 0, Value.int .i64 0, Value.int .i64 0, Value.int .i64 0, Value.int .i64 0, Value.int .i64 0, Value.int .i64 0, Value.int .i64 0, Value.int .i64 0, Value.int .i64 0, Value.int .i64 0, Value.int .i64 0, Value.int .i64 0, Value.int .i64 0, Value.int .i64 0, Value.int .i64 0, Value.int .i64 0, Value.int .i64 0, Value.int .i64 0, Value.int .i64 0, Value.int .i64 0, Value.int .i64 0, Value.int .i64 0, Value.int .i64 0, Value.int .i64 0, Value.int .i64 0, Value.int .i64 0, Value.int .i64 0, Value.int .i64 0, Value.int .i64 0, Value.int .i64 0, Value.int .i64 0, Value.int .i64 0, Value.int .i64 0, Value.int .i64 0, Value.int .i64 0, Value.int .i64 0, Value.int .i64 0, Value.int .i64 0, Value.int .i64 0] 61)).rowIs wr.heap.size 61 64 (fun t => .int .i64 (if 1 ≤ t ∧ t < 1 then 1 else 0)) :=
        (World.rowIs_alloc wr #[Value.int .i64 0, Value.int .i64 0, Value.int .i64 0, Value.int .i64 0, Value.int .i64 0, Value.int .i64 0, Value.int .i64 0, Value.int .i64 0, Value.int .i64 0, Value.int .i64 0, Value.int .i64 0, Value.int .i64 0, Value.int .i64 0, Value.int .i64 0, Value.int .i64 0, Value.int .i64 0, Value.int .i64 0, Value.int .i64 0, Value.int .i64 0, Value.int .i64 0, Value.int .i64 0, Value.int .i64 0, Value.int .i64 0, Value.int .i64 0, Value.int .i64 0, Value.int .i64 0, Value.int .i64 0, Value.int .i64 0, Value.int .i64 0, Value.int .i64 0, Value.int .i64 0, Value.int .i64 0, Value.int .i64 0, Value.int .i64 0, Value.int .i64 0, Value.int .i64 0, Value.int .i64 0, Value.int .i64 0, Value.int .i64 0, Value.int .i64 0, Value.int .i64 0, Value.int .i64 0, Value.int .i64 0, Value.int .i64 0, Value.int .i64 0, Value.int .i64 0, Value.int .i64 0, Value.int .i64 0, Value.int .i64 0, Value.int .i64 0, Value.int .i64 0, Value.int .i64 0, Value.int .i64 0, Value.int .i64 0, Value.int .i64 0, Value.int .i64 0, Value.int .i64 0, Value.int .i64 0, Value.int .i64 0, Value.int .i64 0, Value.int .i64 0, Value.int .i64 0, Value.int .i64 0, Value.int .i64 0] 61 (fun _ => .int .i64 0) (fun i hi => zeros64 i hi)).congr (fun i hi => by rw [if_neg (by omega)])
      have hf4 := hfb.alloc hfb.size (.cells #[Value.int .i64 0, Value.int .i64 0, Value.int .i64 0, Value.int .i64 0, Value.int .i64 0, Value.int .i64 0, Value.int .i64 0, Value.int .i64 0, Value.int .i64 0, Value.int .i64 0, Value.int .i64 0, Value.int .i64 0, Value.int .i64 0, Value.int .i64 0, Value.int .i64 0, Value.int .i64 0, Value.int .i64 0, Value.int .i64 0, Value.int .i64 0, Value.int .i64 0, Value.int .i64 0, Value.int .i64 0, Value.int .i64 0, Value.int .i64 0, Value.int .i64 0, Value.int .i64 0, Value.int .i64 0, Value.int .i64 0, Value.int .i64 0, Value.int .i64 0, Value.int .i64 0, Value.int .i64 0, Value.int .i64 0, Value.int .i64 0, Value.int .i64 0, Value.int .i64 0, Value.int .i64 0, Value.int .i64 0, Value.int .i64 0, Value.int .i64 0, Value.int .i64 0, Value.int .i64 0, Value.int .i64 0, Value.int .i64 0, Value.int .i64 0, Value.int .i64 0, Value.int .i64 0, Value.int .i64 0, Value.int .i64 0, Value.int .i64 0, Value.int .i64 0, Value.int .i64 0, Value.int .i64 0, Value.int .i64 0, Value.int .i64 0, Value.int .i64 0, Value.int .i64 0, Value.int .i64 0, Value.int .i64 0, Value.int .i64 0, Value.int .i64 0, Value.int .i64 0, Value.int .i64 0, Value.int .i64 0] 61)
      generalize wr.alloc (.cells #[Value.int .i64 0, Value.int .i64 0, Value.int .i64 0, Value.int .i64 0, Value.int .i64 0, Value.int .i64 0, Value.int .i64 0, Value.int .i64 0, Value.int .i64 0, Value.int .i64 0, Value.int .i64 0, Value.int .i64 0, Value.int .i64 0, Value.int .i64 0, Value.int .i64 0, Value.int .i64 0, Value.int .i64 0, Value.int .i64 0, Value.int .i64 0, Value.int .i64 0, Value.int .i64 0, Value.int .i64 0, Value.int .i64 0, Value.int .i64 0, Value.int .i64 0, Value.int .i64 0, Value.int .i64 0, Value.int .i64 0, Value.int .i64 0, Value.int .i64 0, Value.int .i64 0, Value.int .i64 0, Value.int .i64 0, Value.int .i64 0, Value.int .i64 0, Value.int .i64 0, Value.int .i64 0, Value.int .i64 0, Value.int .i64 0, Value.int .i64 0, Value.int .i64 0, Value.int .i64 0, Value.int .i64 0, Value.int .i64 0, Value.int .i64 0, Value.int .i64 0, Value.int .i64 0, Value.int .i64 0, Value.int .i64 0, Value.int .i64 0, Value.int .i64 0, Value.int .i64 0, Value.int .i64 0, Value.int .i64 0, Value.int .i64 0, Value.int .i64 0, Value.int .i64 0, Value.int .i64 0, Value.int .i64 0, Value.int .i64 0, Value.int .i64 0, Value.int .i64 0, Value.int .i64 0, Value.int .i64 0] 61) = w4 at *
      have hB : w1.heap.size ≤ wr.heap.size := hfb.size
      generalize wr.heap.size = B at *
      clear k1 k2 hfb hf hlt
      go_loopw [6] (fun i wr => ∃ k : Nat, 1 ≤ k ∧ k ≤ d.nb + 1 ∧ i = .int .i64 k ∧ wr.rowIs B 61 64 (fun t => .int .i64 (if 1 ≤ t ∧ t < k then 1 else 0)) ∧ Below w1.heap.size w1 wr) (fun i _ => d.nb + 1 - (intOf i).toNat)
      case atStart => exact ⟨1, by omega, by omega, rfl, hrow, hf4⟩
      case round =>
        clear hrow hf4
        obtain ⟨k, hk0, hk, rfl, hrow, hfb⟩ := hrel
        have k1 := fresh_cell hfb K1.out
        by_cases hlt : k < d.nb + 1
        · have fa := hrow.frozen
          have cak := hrow.cell (i := k) (by omega)
          go_wp2
          go_roundw
          case rel => exact ⟨k + 1, by omega, by omega, by go_num, (hrow.set k _).congr (fun t ht => by
            by_cases e : t = k
            · rw [if_pos e, if_pos (by omega)]
            · rw [if_neg e]
              by_cases e2 : 1 ≤ t ∧ t < k
              · rw [if_pos e2, if_pos (by omega)]
              · rw [if_neg e2, if_neg (by omega)]), hfb.setCell hB _⟩
          case measure => simp [intOf]; omega
        · have ek : k = d.nb + 1 := by omega
          have hrow' : wr.rowIs B 61 64 (d.szs (d.nb + 1 + 0)) := hrow.congr (fun t ht => by rw [ek]; exact d.szs_base t)
          clear ek
          have hkk : ¬ k ≤ d.nb := by omega
          clear hrow
          go_wp2
          clear k1
          go_loopw [7] (fun i wr => ∃ m : Nat, m ≤ d.np ∧ i = .int .i64 m ∧ wr.rowIs B 61 64 (d.szs (d.nb + 1 + m)) ∧ Hid (∀ j, j < m → d.newP j) ∧ Hid (∀ j, j < m → d.okPair j) ∧ Hid (∀ j, j < m → d.okLen j) ∧ Below w1.heap.size w1 wr) (fun i _ => d.np - (intOf i).toNat)
          case atStart => exact ⟨0, by omega, rfl, hrow', (fun i hi => absurd hi (by omega)), (fun i hi => absurd hi (by omega)), (fun i hi => absurd hi (by omega)), hfb⟩
          case round =>
            clear hrow' hfb hlt hk hk0
            obtain ⟨m, hm, rfl, hrow, H1, H2, H3, hfb⟩ := hrel
            have hf := fresh_trans hf0 hfb
            have k1 := fresh_cell hfb K1.out
            have k2 := fresh_cell hfb K2.out
            by_cases hlt : m < d.np
            · obtain ⟨b1, o1, rfl, h1⟩ := (hp.fresh hf).two (by omega)
              obtain ⟨c1, s1⟩ := h1 m hlt
              clear h1
              have i1 : (0 : Int) ≤ (m : Int) := Int.natCast_nonneg _
              have i2 : (m : Int) < (d.np : Int) := by omega
              by_cases tw : ∃ i, i < m ∧ d.P i = d.P m ∧ d.Q i = d.Q m
              · obtain rfl := BAD.out (fun h => by obtain ⟨i, hi, e⟩ := tw; exact h.pair m hlt i hi e)
                have TW := hidd tw
                clear tw
                go_wp2_with fail
                refine (twicePair_any (d := d) (bo := bo) (cb := cb) (hp.fresh hf) m hlt (by omega) true ⟨fun _ => TW.out, fun _ => rfl⟩).mono ?_
                rintro e w2 ⟨rfl, hf2⟩
                have hf3 := fresh_trans hf hf2
                clear hf2
                go_wp2
                all_goals (go_ret; exact ⟨rfl, hf3⟩)
              have TW := hidd tw
              clear tw
              by_cases q1 : d.P m < 1
              · obtain rfl := BAD.out (fun h => by have := (h.ok m hlt).1; omega)
                go_wp2_with fail
                refine (twicePair_any (d := d) (bo := bo) (cb := cb) (hp.fresh hf) m hlt (by omega) false ⟨(fun h => nomatch h), fun h => absurd h TW.out⟩).mono ?_
                rintro e w2 ⟨rfl, hf2⟩
                have hf3 := fresh_trans hf hf2
                clear hf2
                go_wp2
                go_ret
                exact ⟨rfl, hf3⟩
              by_cases q2 : d.Q m < 1
              · obtain rfl := BAD.out (fun h => by have := (h.ok m hlt).2.1; omega)
                go_wp2_with fail
                refine (twicePair_any (d := d) (bo := bo) (cb := cb) (hp.fresh hf) m hlt (by omega) false ⟨(fun h => nomatch h), fun h => absurd h TW.out⟩).mono ?_
                rintro e w2 ⟨rfl, hf2⟩
                have hf3 := fresh_trans hf hf2
                clear hf2
                go_wp2
                go_ret
                exact ⟨rfl, hf3⟩
              by_cases q3 : ((d.nb + 1 + m : Nat) : Int) ≤ d.P m
              · obtain rfl := BAD.out (fun h => by have := (h.ok m hlt).2.2.1; omega)
                go_wp2_with fail
                refine (twicePair_any (d := d) (bo := bo) (cb := cb) (hp.fresh hf) m hlt (by omega) false ⟨(fun h => nomatch h), fun h => absurd h TW.out⟩).mono ?_
                rintro e w2 ⟨rfl, hf2⟩
                have hf3 := fresh_trans hf hf2
                clear hf2
                go_wp2
                go_ret
                exact ⟨rfl, hf3⟩
              by_cases q4 : ((d.nb + 1 + m : Nat) : Int) ≤ d.Q m
              · obtain rfl := BAD.out (fun h => by have := (h.ok m hlt).2.2.2; omega)
                go_wp2_with fail
                refine (twicePair_any (d := d) (bo := bo) (cb := cb) (hp.fresh hf) m hlt (by omega) false ⟨(fun h => nomatch h), fun h => absurd h TW.out⟩).mono ?_
                rintro e w2 ⟨rfl, hf2⟩
                have hf3 := fresh_trans hf hf2
                clear hf2
                go_wp2
                go_ret
                exact ⟨rfl, hf3⟩
              have OK : Hid (d.okPair m) := ⟨by omega, by omega, by omega, by omega⟩
              obtain ⟨p, eP⟩ : ∃ p : Nat, d.P m = (p : Int) := ⟨(d.P m).toNat, by omega⟩
              obtain ⟨q, eQ⟩ : ∃ q : Nat, d.Q m = (q : Int) := ⟨(d.Q m).toNat, by omega⟩
              have lp : p < d.nb + 1 + m := by omega
              have lq : q < d.nb + 1 + m := by omega
              have l1 := d.len_le H3.out p lp
              have l2 := d.len_le H3.out q lq
              have hL := hidd (d.pc_pair OK.out)
              have EP := hidd eP
              have EQ := hidd eQ
              rw [eP] at c1 q1 q3
              rw [eQ] at s1 q2 q4
              clear eP eQ
              go_wp2_with fail
              refine (twicePair_any (d := d) (bo := bo) (cb := cb) (hp.fresh hf) m hlt (by omega) false ⟨(fun h => nomatch h), fun h => absurd h TW.out⟩).mono ?_
              rintro e w2 ⟨rfl, hf2⟩
              have hfb2 := fresh_trans hfb hf2
              have hrow2 := hrow.of_block (hf2.block B hrow.lt)
              clear hf2 hfb hrow k1 k2 c1 s1
              have cp : w2.cell? ⟨B, p, none⟩ = some (.int .i64 ((d.pc p).length : Int)) := by rw [hrow2.cell (i := p) (by omega)]; unfold VD.szs; rw [if_pos lp]
              have cq : w2.cell? ⟨B, q, none⟩ = some (.int .i64 ((d.pc q).length : Int)) := by rw [hrow2.cell (i := q) (by omega)]; unfold VD.szs; rw [if_pos lq]
              have fa := hrow2.frozen
              have cak := hrow2.cell (i := d.nb + 1 + m) (by omega)
              go_wp2
              go_region
              have hL' : (d.pc (d.nb + 1 + m)).length = (d.pc p).length + (d.pc q).length := by rw [hL.out, List.length_append, EP.out, EQ.out]; rfl
              have hrow3 : (w2.setCell ⟨B, d.nb + 1 + m, none⟩ (.int .i64 (((d.pc p).length : Int) + ((d.pc q).length : Int)))).drew.rowIs B 61 64 (d.szs (d.nb + 1 + (m + 1))) := ((hrow2.set _ _).drew).congr (fun t ht => by
                unfold VD.szs
                by_cases e : t = d.nb + 1 + m
                · rw [if_pos e, if_pos (by omega), e, hL']; rfl
                · rw [if_neg e]
                  by_cases e2 : t < d.nb + 1 + m
                  · rw [if_pos e2, if_pos (by omega)]
                  · rw [if_neg e2, if_neg (by omega)])
              have hfb3 : Below w1.heap.size w1 (w2.setCell ⟨B, d.nb + 1 + m, none⟩ (.int .i64 (((d.pc p).length : Int) + ((d.pc q).length : Int)))).drew := (hfb2.setCell hB _).drew
              have c3 : (w2.setCell ⟨B, d.nb + 1 + m, none⟩ (.int .i64 (((d.pc p).length : Int) + ((d.pc q).length : Int)))).drew.cell? ⟨B, d.nb + 1 + m, none⟩ = some (.int .i64 (((d.pc p).length : Int) + ((d.pc q).length : Int))) := by
                rw [hrow3.cell (i := d.nb + 1 + m) (by omega)]
                unfold VD.szs
                rw [if_pos (by omega), hL']; rfl
              generalize (w2.setCell ⟨B, d.nb + 1 + m, none⟩ (.int .i64 (((d.pc p).length : Int) + ((d.pc q).length : Int)))).drew = w5 at *
              clear hrow2 hfb2 cp cq fa cak
              by_cases hlen : (d.pc p).length + (d.pc q).length ≤ 16
              · have OL : Hid (d.okLen m) := by show (d.pc (d.nb + 1 + m)).length ≤ 16; omega
                clear hL'
                go_wp2
                go_roundw
                case rel => exact ⟨m + 1, by omega, by go_num, hrow3, (fun j hj => if h : j = m then h ▸ (fun i hi e => TW.out ⟨i, hi, e⟩) else H1.out j (by omega)), (fun j hj => if h : j = m then h ▸ OK.out else H2.out j (by omega)), (fun j hj => if h : j = m then h ▸ OL.out else H3.out j (by omega)), hfb3⟩
                case measure => simp [intOf]; omega
              · obtain rfl := BAD.out (fun h => by have := h.len m hlt; unfold VD.okLen at this; omega)
                clear hL'
                have hf5 := fresh_trans hf0 hfb3
                go_wp2
                go_ret
                exact ⟨rfl, hf5⟩
            · obtain rfl : m = d.np := by omega
              obtain rfl := GOOD.out ⟨⟨by omega, by omega, by omega⟩, HN.out, H1.out, H2.out, H3.out⟩
              go_wp2
              go_ret
              exact ⟨rfl, hf⟩
end Go.Proofs.Yteiocgciblogdab
