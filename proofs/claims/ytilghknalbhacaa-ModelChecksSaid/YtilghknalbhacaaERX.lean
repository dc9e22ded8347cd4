import Derived.Test.YtilghknalbhacaaEPX
import Derived.Test.YtilghknalbhacaaLFX
namespace Go.Proofs.Ytilghknalbhacaa
open Go.RowKit
/-! Comparing what is alike. -/
set_option maxHeartbeats 1000000 in
theorem eqNarrow_same {w : World} {ao bo : Option Addr} {n ca cb : Nat} {f g : Nat → Int} (ha : RdA w ao 1 n ca (fun i => .int .i8 (f i))) (hb : RdA w bo 1 n cb (fun i => .int .i8 (g i))) (hfg : ∀ i, i < n → f i = g i) :
    Calls Try.prog 44 #[.slice ao n ca, .slice bo n cb] w fun e w' => e = .returned (.bool true) ∧ Below w.heap.size w w' := by
  have hn : n ≤ 9223372036854775807 := by have := ha.le; have := ha.top; unfold maxLen at this; omega
  go_enter Try.func44, Try.ntmps44
  go_wp2
  go_loopw [5] (fun i wr => ∃ k : Nat, k ≤ n ∧ i = .int .i64 k ∧ Below w.heap.size w wr) (fun i _ => n - (intOf i).toNat)
  case atStart => exact ⟨0, by omega, rfl, Below.refl _ _⟩
  case round =>
    obtain ⟨k, hk, rfl, hf⟩ := hrel
    by_cases hlt : k < n
    · obtain ⟨b1, o1, rfl, h1⟩ := (ha.fresh hf).one (by omega)
      obtain ⟨b2, o2, rfl, h2⟩ := (hb.fresh hf).one (by omega)
      have c1 := h1 k hlt
      have c2 := h2 k hlt
      have e := hfg k hlt
      rw [← e] at c2
      clear h1 h2 e
      go_wp2
      go_quiet (fail)
      go_wp2
      go_roundw
      case rel => exact ⟨k + 1, by omega, by go_num, below_drewN hf _⟩
      case measure => simp [intOf]; omega
    · go_wp2
      go_ret
      exact ⟨rfl, hf⟩
set_option maxHeartbeats 1000000 in
theorem eqBytes_same {w : World} {ao bo : Option Addr} {n ca cb : Nat} {f g : Nat → Int} (ha : RdA w ao 1 n ca (fun i => .int .u8 (f i))) (hb : RdA w bo 1 n cb (fun i => .int .u8 (g i))) (hfg : ∀ i, i < n → f i = g i) :
    Calls Try.prog 17 #[.slice ao n ca, .slice bo n cb] w fun e w' => e = .returned (.bool true) ∧ Below w.heap.size w w' := by
  have hn : n ≤ 9223372036854775807 := by have := ha.le; have := ha.top; unfold maxLen at this; omega
  go_enter Try.func17, Try.ntmps17
  go_wp2
  go_loopw [5] (fun i wr => ∃ k : Nat, k ≤ n ∧ i = .int .i64 k ∧ Below w.heap.size w wr) (fun i _ => n - (intOf i).toNat)
  case atStart => exact ⟨0, by omega, rfl, Below.refl _ _⟩
  case round =>
    obtain ⟨k, hk, rfl, hf⟩ := hrel
    by_cases hlt : k < n
    · obtain ⟨b1, o1, rfl, h1⟩ := (ha.fresh hf).one (by omega)
      obtain ⟨b2, o2, rfl, h2⟩ := (hb.fresh hf).one (by omega)
      have c1 := h1 k hlt
      have c2 := h2 k hlt
      have e := hfg k hlt
      rw [← e] at c2
      clear h1 h2 e
      go_wp2
      go_quiet (fail)
      go_wp2
      go_roundw
      case rel => exact ⟨k + 1, by omega, by go_num, below_drewN hf _⟩
      case measure => simp [intOf]; omega
    · go_wp2
      go_ret
      exact ⟨rfl, hf⟩
set_option maxHeartbeats 1000000 in
theorem eqTurns_same {w : World} {ao bo : Option Addr} {n ca cb : Nat} {C S C' S' : Nat → Int} (ha : RdA w ao 2 n ca (tcs C S)) (hb : RdA w bo 2 n cb (tcs C' S')) (hC : ∀ i, i < n → C i = C' i) (hS : ∀ i, i < n → S i = S' i) :
    Calls Try.prog 42 #[.slice ao n ca, .slice bo n cb] w fun e w' => e = .returned (.bool true) ∧ Below w.heap.size w w' := by
  have hn : n ≤ 9223372036854775807 := by have := ha.le; have := ha.top; unfold maxLen at this; omega
  go_enter Try.func42, Try.ntmps42
  go_wp2
  go_loopw [5] (fun i wr => ∃ k : Nat, k ≤ n ∧ i = .int .i64 k ∧ Below w.heap.size w wr) (fun i _ => n - (intOf i).toNat)
  case atStart => exact ⟨0, by omega, rfl, Below.refl _ _⟩
  case round =>
    obtain ⟨k, hk, rfl, hf⟩ := hrel
    by_cases hlt : k < n
    · obtain ⟨b1, o1, rfl, h1⟩ := (ha.fresh hf).two (by omega)
      obtain ⟨b2, o2, rfl, h2⟩ := (hb.fresh hf).two (by omega)
      obtain ⟨c1, s1⟩ := h1 k hlt
      obtain ⟨c2, s2⟩ := h2 k hlt
      have e := hC k hlt
      rw [← e] at c2
      have e' := hS k hlt
      rw [← e'] at s2
      clear h1 h2 e e'
      go_wp2
      go_quiet (fail)
      go_wp2
      go_roundw
      case rel => exact ⟨k + 1, by omega, by go_num, below_drewN hf _⟩
      case measure => simp [intOf]; omega
    · go_wp2
      go_ret
      exact ⟨rfl, hf⟩
set_option maxRecDepth 20000 in
set_option maxHeartbeats 4000000 in
theorem eqMat_same {w : World} {m m' : MtD} (h : MtR w m) (h' : MtR w m') (hs : SmM m m') :
    Calls Try.prog 41 #[.agg #[.int .i64 m'.R, .int .i64 m'.C, .slice m'.O m'.n m'.c], .agg #[.int .i64 m.R, .int .i64 m.C, .slice m.O m.n m.c]] w fun e w' => e = .returned (.bool true) ∧ Below w.heap.size w w' := by
  obtain ⟨e1, e2, e3, e4⟩ := hs
  have HN : Hid (∀ z, Below w.heap.size w z → Calls Try.prog 44 #[.slice m'.O m.n m'.c, .slice m.O m.n m.c] z fun e w' => e = .returned (.bool true) ∧ Below z.heap.size z w') := fun z hz => eqNarrow_same (f := m'.f) (by have := h'.rd; rw [e3] at this; exact this.fresh hz) (h.rd.fresh hz) (fun i _ => by rw [e4])
  rw [e1, e2, e3]
  have f1 := fresh_alloc w (.cells #[.int .i64 m.R, .int .i64 m.C, .slice m'.O m.n m'.c] 29)
  have f2 := fresh_trans f1 (fresh_alloc _ (.cells #[.int .i64 m.R, .int .i64 m.C, .slice m.O m.n m.c] 29))
  have F2 := hidd f2
  have HN2 := hidd (HN.out _ f2)
  clear h h' e1 e2 e3 e4 f1 f2 HN
  go_enter Try.func41, Try.ntmps41
  go_wp2_with fail
  refine HN2.out.mono ?_
  rintro e w1 ⟨rfl, f3⟩
  have F3 := hidd (fresh_trans F2.out f3)
  clear f3 F2 HN2
  go_wp2
  go_ret
  exact ⟨rfl, F3.out⟩
set_option maxRecDepth 20000 in
set_option maxHeartbeats 4000000 in
theorem eqCfg_same (w : World) (V W H K L D N M : Int) :
    Calls Try.prog 40 #[.agg #[.int .i64 V, .int .i64 W, .int .i64 H, .int .i64 K, .int .i64 L, .int .i64 D, .int .i64 N, .int .i64 M], .agg #[.int .i64 V, .int .i64 W, .int .i64 H, .int .i64 K, .int .i64 L, .int .i64 D, .int .i64 N, .int .i64 M]] w fun e w' => e = .returned (.bool true) ∧ Below w.heap.size w w' := by
  have f1 := fresh_alloc w (.cells #[.int .i64 V, .int .i64 W, .int .i64 H, .int .i64 K, .int .i64 L, .int .i64 D, .int .i64 N, .int .i64 M] 23)
  have F2 := hidd (fresh_trans f1 (fresh_alloc _ (.cells #[.int .i64 V, .int .i64 W, .int .i64 H, .int .i64 K, .int .i64 L, .int .i64 D, .int .i64 N, .int .i64 M] 23)))
  clear f1
  go_enter Try.func40, Try.ntmps40
  go_wp2
  go_ret
  exact ⟨rfl, F2.out⟩
end Go.Proofs.Ytilghknalbhacaa
namespace Go.Proofs.Ytilghknalbhacaa
open Go.RowKit
def mkd (f : Nat → Int) (n : Nat) : Nat → Int := fun i => if i < n then f i else -128
theorem rowIs_rdM {w : World} {b n cap : Nat} {t : TypeId} {f : Nat → Value} (h : w.rowIs b t cap f) (hn : n ≤ cap) (hc : cap ≤ maxLen) : RdA w (some ⟨b, 0, none⟩) 1 n cap f :=
  ⟨hn, hc, fun _ => ⟨b, 0, rfl, fun j hj => by rw [Nat.zero_add]; exact h.cell (by omega)⟩⟩
theorem mkd_rd {w : World} {g n : Nat} {t : TypeId} {f : Nat → Int} (hr : w.rowIs g t (n + 64) (fun i => .int .i8 (mkd f n i))) (hn : n ≤ 2147483647) : RdA w (some ⟨g, 0, none⟩) 1 n (n + 64) (fun i => .int .i8 (f i)) :=
  (rowIs_rdM hr (by omega) (by unfold maxLen; omega)).congr fun i hi => by rw [show mkd f n i = f i from if_pos (by omega)]
set_option maxRecDepth 20000 in
set_option maxHeartbeats 1600000 in
theorem marked_any {w : World} {ao : Option Addr} {n cap : Nat} {f : Nat → Int} (h : RdA w ao 1 n cap (fun i => .int .i8 (f i))) (hn : n ≤ 2147483647) :
    Calls Try.prog 19 #[.slice ao n cap] w fun e w' => e = .returned (.slice (some ⟨w.heap.size, 0, none⟩) n (n + 64)) ∧ w'.rowIs w.heap.size 84 (n + 64) (fun i => .int .i8 (mkd f n i)) ∧ Below w.heap.size w w' := by
  obtain ⟨c, hc⟩ : ∃ c, c = n + 64 := ⟨_, rfl⟩
  have e1 : (n : Int) + 64 = (c : Int) := by omega
  have hmk := run_make_row' (P := Try.prog) 27 84 (.int .i8 0) 1 Try.underlying27 infoI8 rfl .i64 .i64 c (by omega) (by omega)
  have R0 := hidd (World.rowIs_made w (.int .i8 0) c 84)
  have f0 := fresh_alloc w (.cells (madeCells #[.int .i8 0] c) 84)
  have HCE := hidd hc
  rw [← hc]
  clear hc
  go_enter Try.func19, Try.ntmps19
  go_wp2
  clear hmk
  go_loopw [4] (fun i wr => ∃ k : Nat, k ≤ c ∧ i = .int .i64 k ∧ Hid (wr.rowIs w.heap.size 84 c (fun j => .int .i8 (if j < k then mkd f n j else 0))) ∧ Below w.heap.size w wr) (fun i _ => c - (intOf i).toNat)
  case atStart => exact ⟨0, by omega, rfl, R0.out, f0⟩
  case round =>
    clear R0 f0
    obtain ⟨k, hk, rfl, HR, hf⟩ := hrel
    have hsz := hf.size
    by_cases hlt : k < c
    · have c0 := HR.out.cell (i := k) hlt
      have fz := HR.out.frozen
      have r1 := HR.out.set k (.int .i8 (-128))
      have c1 := r1.cell (i := k) hlt
      rw [if_pos rfl] at c1
      have fz1 := r1.frozen
      have HR1 := hidd r1
      have hf1 : Below w.heap.size w (wr.setCell ⟨w.heap.size, k, none⟩ (.int .i8 (-128))) := hf.setCell (Nat.le_refl _) _
      clear r1
      have k0 : (0 : Int) ≤ (k : Int) := by omega
      have k1 : (k : Int) < (c : Int) := by omega
      by_cases hkn : k < n
      · have hd : decide ((k : Int) < (n : Int)) = true := by simp; omega
        have k2 : (k : Int) < (n : Int) := by omega
        obtain ⟨b1, o1, rfl, h1⟩ := h.one (by omega)
        have d := fresh_cell hf1 (h1 k hkn)
        clear h1
        have HR2 := hidd (HR1.out.set k (.int .i8 (f k)))
        have HV : Hid (mkd f n k = f k) := if_pos hkn
        generalize f k = y at d HR2 HV
        go_wp2
        go_roundw
        case rel =>
          refine ⟨k + 1, by omega, by go_num, HR2.out.congr (fun j hj => ?_), hf1.setCell (Nat.le_refl _) _⟩
          by_cases e : j = k
          · subst e
            rw [if_pos rfl, if_pos (by omega), HV.out]
          · rw [if_neg e, if_neg e]
            by_cases e2 : j < k
            · rw [if_pos e2, if_pos (by omega)]
            · rw [if_neg e2, if_neg (by omega)]
        case measure => simp [intOf]; omega
      · have hd : decide ((k : Int) < (n : Int)) = false := by simp; omega
        have HV : Hid (mkd f n k = -128) := if_neg hkn
        go_wp2
        go_roundw
        case rel =>
          refine ⟨k + 1, by omega, by go_num, HR1.out.congr (fun j hj => ?_), hf1⟩
          by_cases e : j = k
          · subst e
            rw [if_pos rfl, if_pos (by omega), HV.out]
          · rw [if_neg e]
            by_cases e2 : j < k
            · rw [if_pos e2, if_pos (by omega)]
            · rw [if_neg e2, if_neg (by omega)]
        case measure => simp [intOf]; omega
    · obtain rfl : c = k := by omega
      have n0 : (0 : Int) ≤ (n : Int) := by omega
      have n1 : (n : Int) ≤ (c : Int) := by omega
      go_wp2
      go_ret
      exact ⟨rfl, HR.out.congr (fun j hj => by rw [if_pos hj]), hf⟩
set_option maxRecDepth 20000 in
set_option maxHeartbeats 1600000 in
theorem still_any {w : World} {ao : Option Addr} {n cap g : Nat} {f : Nat → Int} (h : RdA w ao 1 n cap (fun i => .int .i8 (f i))) (hr : w.rowIs g 84 (n + 64) (fun i => .int .i8 (mkd f n i))) (hn : n ≤ 2147483647) :
    Calls Try.prog 21 #[.slice (some ⟨g, 0, none⟩) n (n + 64), .slice ao n cap] w fun e w' => e = .returned (.bool true) ∧ Below w.heap.size w w' := by
  obtain ⟨c, hc⟩ : ∃ c, c = n + 64 := ⟨_, rfl⟩
  have e1 : (n : Int) + 64 = (c : Int) := by omega
  rw [← hc] at hr ⊢
  have HR := hidd hr
  have hcn : n ≤ c := by omega
  have hcb : c ≤ 2147483711 := by omega
  have n0 : (0 : Int) ≤ (c : Int) := by omega
  clear hr hc
  go_enter Try.func21, Try.ntmps21
  go_wp2
  go_loopw [6] (fun i wr => ∃ k : Nat, k ≤ c ∧ i = .int .i64 k ∧ Below w.heap.size w wr) (fun i _ => c - (intOf i).toNat)
  case atStart => exact ⟨0, by omega, rfl, Below.refl _ _⟩
  case round =>
    obtain ⟨k, hk, rfl, hf⟩ := hrel
    by_cases hlt : k < c
    · have c0 := fresh_cell hf (HR.out.cell (i := k) hlt)
      have k0 : (0 : Int) ≤ (k : Int) := by omega
      have k1 : (k : Int) < (c : Int) := by omega
      by_cases hkn : k < n
      · have hd : decide ((k : Int) < (n : Int)) = true := by simp; omega
        have hd2 : decide (n ≤ k) = false := by simp; omega
        have k2 : (k : Int) < (n : Int) := by omega
        obtain ⟨b1, o1, rfl, h1⟩ := (h.fresh hf).one (by omega)
        have d := h1 k hkn
        clear h1
        have HV : mkd f n k = f k := if_pos hkn
        rw [HV] at c0
        clear HV
        generalize f k = y at d c0
        go_wp2
        go_quiet (fail)
        go_wp2
        go_roundw
        case rel => exact ⟨k + 1, by omega, by go_num, below_drewN hf _⟩
        case measure => simp [intOf]; omega
      · have hd : decide ((k : Int) < (n : Int)) = false := by simp; omega
        have hd2 : decide (n ≤ k) = true := by simp; omega
        have HV : mkd f n k = -128 := if_neg hkn
        rw [HV] at c0
        clear HV
        go_wp2
        go_quiet (fail)
        go_wp2
        go_roundw
        case rel => exact ⟨k + 1, by omega, by go_num, below_drewN hf _⟩
        case measure => simp [intOf]; omega
    · obtain rfl : c = k := by omega
      go_wp2
      go_ret
      exact ⟨rfl, hf⟩
end Go.Proofs.Ytilghknalbhacaa
namespace Go.Proofs.Ytilghknalbhacaa
open Go.RowKit
/-! Two layers that are alike. -/
theorem eqNar_sm {w : World} {l l' : LsD} (h : LsR w l) (h' : LsR w l') (hs : SmS l l') :
    Calls Try.prog 44 #[.slice l'.O l'.n l'.c, .slice l.O l.n l.c] w fun e w' => e = .returned (.bool true) ∧ Below w.heap.size w w' := by
  obtain ⟨e1, e2⟩ := hs
  have h9 := h'.rd
  rw [e1] at h9
  rw [e1]
  exact eqNarrow_same h9 h.rd (fun i _ => by rw [e2])
set_option maxRecDepth 100000 in
set_option maxHeartbeats 8000000 in
theorem eqLay_same {w : World} {l l' : LyD} (h : LyR w l) (h' : LyR w l') (hs : SmL l l') :
    Calls Try.prog 43 #[.agg #[.slice l'.n1.O l'.n1.n l'.n1.c, .slice l'.n2.O l'.n2.n l'.n2.c, .int .i64 l'.q.R, .int .i64 l'.q.C, .slice l'.q.O l'.q.n l'.q.c, .int .i64 l'.k.R, .int .i64 l'.k.C, .slice l'.k.O l'.k.n l'.k.c, .int .i64 l'.v.R, .int .i64 l'.v.C, .slice l'.v.O l'.v.n l'.v.c, .int .i64 l'.o.R, .int .i64 l'.o.C, .slice l'.o.O l'.o.n l'.o.c, .int .i64 l'.g.R, .int .i64 l'.g.C, .slice l'.g.O l'.g.n l'.g.c, .int .i64 l'.u.R, .int .i64 l'.u.C, .slice l'.u.O l'.u.n l'.u.c, .int .i64 l'.d.R, .int .i64 l'.d.C, .slice l'.d.O l'.d.n l'.d.c, .int .i64 (l.sh 0), .int .i64 (l.sh 1), .int .i64 (l.sh 2), .int .i64 (l.sh 3), .int .i64 (l.sh 4), .int .i64 (l.sh 5), .int .i64 (l.sh 6)], .agg #[.slice l.n1.O l.n1.n l.n1.c, .slice l.n2.O l.n2.n l.n2.c, .int .i64 l.q.R, .int .i64 l.q.C, .slice l.q.O l.q.n l.q.c, .int .i64 l.k.R, .int .i64 l.k.C, .slice l.k.O l.k.n l.k.c, .int .i64 l.v.R, .int .i64 l.v.C, .slice l.v.O l.v.n l.v.c, .int .i64 l.o.R, .int .i64 l.o.C, .slice l.o.O l.o.n l.o.c, .int .i64 l.g.R, .int .i64 l.g.C, .slice l.g.O l.g.n l.g.c, .int .i64 l.u.R, .int .i64 l.u.C, .slice l.u.O l.u.n l.u.c, .int .i64 l.d.R, .int .i64 l.d.C, .slice l.d.O l.d.n l.d.c, .int .i64 (l.sh 0), .int .i64 (l.sh 1), .int .i64 (l.sh 2), .int .i64 (l.sh 3), .int .i64 (l.sh 4), .int .i64 (l.sh 5), .int .i64 (l.sh 6)]] w fun e w' => e = .returned (.bool true) ∧ Below w.heap.size w w' := by
  obtain ⟨wa, ha⟩ : ∃ wa, wa = w.alloc (.cells #[.slice l'.n1.O l'.n1.n l'.n1.c, .slice l'.n2.O l'.n2.n l'.n2.c, .int .i64 l'.q.R, .int .i64 l'.q.C, .slice l'.q.O l'.q.n l'.q.c, .int .i64 l'.k.R, .int .i64 l'.k.C, .slice l'.k.O l'.k.n l'.k.c, .int .i64 l'.v.R, .int .i64 l'.v.C, .slice l'.v.O l'.v.n l'.v.c, .int .i64 l'.o.R, .int .i64 l'.o.C, .slice l'.o.O l'.o.n l'.o.c, .int .i64 l'.g.R, .int .i64 l'.g.C, .slice l'.g.O l'.g.n l'.g.c, .int .i64 l'.u.R, .int .i64 l'.u.C, .slice l'.u.O l'.u.n l'.u.c, .int .i64 l'.d.R, .int .i64 l'.d.C, .slice l'.d.O l'.d.n l'.d.c, .int .i64 (l.sh 0), .int .i64 (l.sh 1), .int .i64 (l.sh 2), .int .i64 (l.sh 3), .int .i64 (l.sh 4), .int .i64 (l.sh 5), .int .i64 (l.sh 6)] 67) := ⟨_, rfl⟩
  obtain ⟨wb, hb⟩ : ∃ wb, wb = wa.alloc (.cells #[.slice l.n1.O l.n1.n l.n1.c, .slice l.n2.O l.n2.n l.n2.c, .int .i64 l.q.R, .int .i64 l.q.C, .slice l.q.O l.q.n l.q.c, .int .i64 l.k.R, .int .i64 l.k.C, .slice l.k.O l.k.n l.k.c, .int .i64 l.v.R, .int .i64 l.v.C, .slice l.v.O l.v.n l.v.c, .int .i64 l.o.R, .int .i64 l.o.C, .slice l.o.O l.o.n l.o.c, .int .i64 l.g.R, .int .i64 l.g.C, .slice l.g.O l.g.n l.g.c, .int .i64 l.u.R, .int .i64 l.u.C, .slice l.u.O l.u.n l.u.c, .int .i64 l.d.R, .int .i64 l.d.C, .slice l.d.O l.d.n l.d.c, .int .i64 (l.sh 0), .int .i64 (l.sh 1), .int .i64 (l.sh 2), .int .i64 (l.sh 3), .int .i64 (l.sh 4), .int .i64 (l.sh 5), .int .i64 (l.sh 6)] 67) := ⟨_, rfl⟩
  have s1 : wa.heap.size = w.heap.size + 1 := by rw [ha]; simp
  have s2 : wb.heap.size = w.heap.size + 2 := by rw [hb]; simp [s1]
  have ra : wa.rowIs w.heap.size 67 30 (fun i => (#[.slice l'.n1.O l'.n1.n l'.n1.c, .slice l'.n2.O l'.n2.n l'.n2.c, .int .i64 l'.q.R, .int .i64 l'.q.C, .slice l'.q.O l'.q.n l'.q.c, .int .i64 l'.k.R, .int .i64 l'.k.C, .slice l'.k.O l'.k.n l'.k.c, .int .i64 l'.v.R, .int .i64 l'.v.C, .slice l'.v.O l'.v.n l'.v.c, .int .i64 l'.o.R, .int .i64 l'.o.C, .slice l'.o.O l'.o.n l'.o.c, .int .i64 l'.g.R, .int .i64 l'.g.C, .slice l'.g.O l'.g.n l'.g.c, .int .i64 l'.u.R, .int .i64 l'.u.C, .slice l'.u.O l'.u.n l'.u.c, .int .i64 l'.d.R, .int .i64 l'.d.C, .slice l'.d.O l'.d.n l'.d.c, .int .i64 (l.sh 0), .int .i64 (l.sh 1), .int .i64 (l.sh 2), .int .i64 (l.sh 3), .int .i64 (l.sh 4), .int .i64 (l.sh 5), .int .i64 (l.sh 6)] : Array Value).toList.getD i undef) := by rw [ha]; exact World.rowIs_list w _ 67
  have rb : wb.rowIs (w.heap.size + 1) 67 30 (fun i => (#[.slice l.n1.O l.n1.n l.n1.c, .slice l.n2.O l.n2.n l.n2.c, .int .i64 l.q.R, .int .i64 l.q.C, .slice l.q.O l.q.n l.q.c, .int .i64 l.k.R, .int .i64 l.k.C, .slice l.k.O l.k.n l.k.c, .int .i64 l.v.R, .int .i64 l.v.C, .slice l.v.O l.v.n l.v.c, .int .i64 l.o.R, .int .i64 l.o.C, .slice l.o.O l.o.n l.o.c, .int .i64 l.g.R, .int .i64 l.g.C, .slice l.g.O l.g.n l.g.c, .int .i64 l.u.R, .int .i64 l.u.C, .slice l.u.O l.u.n l.u.c, .int .i64 l.d.R, .int .i64 l.d.C, .slice l.d.O l.d.n l.d.c, .int .i64 (l.sh 0), .int .i64 (l.sh 1), .int .i64 (l.sh 2), .int .i64 (l.sh 3), .int .i64 (l.sh 4), .int .i64 (l.sh 5), .int .i64 (l.sh 6)] : Array Value).toList.getD i undef) := by rw [hb, ← s1]; exact World.rowIs_list wa _ 67
  have f1 : Below w.heap.size w wa := by rw [ha]; exact fresh_alloc _ _
  have f2 : Below wa.heap.size wa wb := by rw [hb]; exact fresh_alloc _ _
  have HLW : Hid (∀ z, Below (w.heap.size + 2) wb z → Below w.heap.size w z) := fun z hz => (fresh_trans f1 f2).trans (hz.mono (by omega))
  have HS : Hid (∀ z, Below (w.heap.size + 2) wb z → w.heap.size + 2 ≤ z.heap.size) := fun z hz => by have := hz.size; omega
  have HRA : Hid (∀ z, Below (w.heap.size + 2) wb z → z.rowIs w.heap.size 67 30 (fun i => (#[.slice l'.n1.O l'.n1.n l'.n1.c, .slice l'.n2.O l'.n2.n l'.n2.c, .int .i64 l'.q.R, .int .i64 l'.q.C, .slice l'.q.O l'.q.n l'.q.c, .int .i64 l'.k.R, .int .i64 l'.k.C, .slice l'.k.O l'.k.n l'.k.c, .int .i64 l'.v.R, .int .i64 l'.v.C, .slice l'.v.O l'.v.n l'.v.c, .int .i64 l'.o.R, .int .i64 l'.o.C, .slice l'.o.O l'.o.n l'.o.c, .int .i64 l'.g.R, .int .i64 l'.g.C, .slice l'.g.O l'.g.n l'.g.c, .int .i64 l'.u.R, .int .i64 l'.u.C, .slice l'.u.O l'.u.n l'.u.c, .int .i64 l'.d.R, .int .i64 l'.d.C, .slice l'.d.O l'.d.n l'.d.c, .int .i64 (l.sh 0), .int .i64 (l.sh 1), .int .i64 (l.sh 2), .int .i64 (l.sh 3), .int .i64 (l.sh 4), .int .i64 (l.sh 5), .int .i64 (l.sh 6)] : Array Value).toList.getD i undef)) := fun z hz => (ra.of_block (f2.block _ (by omega))).of_block (hz.block _ (by omega))
  have HRB : Hid (∀ z, Below (w.heap.size + 2) wb z → z.rowIs (w.heap.size + 1) 67 30 (fun i => (#[.slice l.n1.O l.n1.n l.n1.c, .slice l.n2.O l.n2.n l.n2.c, .int .i64 l.q.R, .int .i64 l.q.C, .slice l.q.O l.q.n l.q.c, .int .i64 l.k.R, .int .i64 l.k.C, .slice l.k.O l.k.n l.k.c, .int .i64 l.v.R, .int .i64 l.v.C, .slice l.v.O l.v.n l.v.c, .int .i64 l.o.R, .int .i64 l.o.C, .slice l.o.O l.o.n l.o.c, .int .i64 l.g.R, .int .i64 l.g.C, .slice l.g.O l.g.n l.g.c, .int .i64 l.u.R, .int .i64 l.u.C, .slice l.u.O l.u.n l.u.c, .int .i64 l.d.R, .int .i64 l.d.C, .slice l.d.O l.d.n l.d.c, .int .i64 (l.sh 0), .int .i64 (l.sh 1), .int .i64 (l.sh 2), .int .i64 (l.sh 3), .int .i64 (l.sh 4), .int .i64 (l.sh 5), .int .i64 (l.sh 6)] : Array Value).toList.getD i undef)) := fun z hz => rb.of_block (hz.block _ (by omega))
  have HC1 : Hid (∀ z, Below (w.heap.size + 2) wb z → z.cell? ⟨w.heap.size, 0, none⟩ = some (.slice l'.n1.O l'.n1.n l'.n1.c) ∧ z.cell? ⟨w.heap.size, 1, none⟩ = some (.slice l'.n2.O l'.n2.n l'.n2.c) ∧ z.cell? ⟨w.heap.size, 23, none⟩ = some (.int .i64 (l.sh 0)) ∧ z.cell? ⟨w.heap.size, 24, none⟩ = some (.int .i64 (l.sh 1)) ∧ z.cell? ⟨w.heap.size, 25, none⟩ = some (.int .i64 (l.sh 2)) ∧ z.cell? ⟨w.heap.size, 26, none⟩ = some (.int .i64 (l.sh 3)) ∧ z.cell? ⟨w.heap.size, 27, none⟩ = some (.int .i64 (l.sh 4)) ∧ z.cell? ⟨w.heap.size, 28, none⟩ = some (.int .i64 (l.sh 5)) ∧ z.cell? ⟨w.heap.size, 29, none⟩ = some (.int .i64 (l.sh 6)) ∧ z.cell? ⟨w.heap.size + 1, 0, none⟩ = some (.slice l.n1.O l.n1.n l.n1.c) ∧ z.cell? ⟨w.heap.size + 1, 1, none⟩ = some (.slice l.n2.O l.n2.n l.n2.c) ∧ z.cell? ⟨w.heap.size + 1, 23, none⟩ = some (.int .i64 (l.sh 0)) ∧ z.cell? ⟨w.heap.size + 1, 24, none⟩ = some (.int .i64 (l.sh 1)) ∧ z.cell? ⟨w.heap.size + 1, 25, none⟩ = some (.int .i64 (l.sh 2)) ∧ z.cell? ⟨w.heap.size + 1, 26, none⟩ = some (.int .i64 (l.sh 3)) ∧ z.cell? ⟨w.heap.size + 1, 27, none⟩ = some (.int .i64 (l.sh 4)) ∧ z.cell? ⟨w.heap.size + 1, 28, none⟩ = some (.int .i64 (l.sh 5)) ∧ z.cell? ⟨w.heap.size + 1, 29, none⟩ = some (.int .i64 (l.sh 6))) := fun z hz => ⟨(HRA.out z hz).cell (i := 0) (by decide), (HRA.out z hz).cell (i := 1) (by decide), (HRA.out z hz).cell (i := 23) (by decide), (HRA.out z hz).cell (i := 24) (by decide), (HRA.out z hz).cell (i := 25) (by decide), (HRA.out z hz).cell (i := 26) (by decide), (HRA.out z hz).cell (i := 27) (by decide), (HRA.out z hz).cell (i := 28) (by decide), (HRA.out z hz).cell (i := 29) (by decide), (HRB.out z hz).cell (i := 0) (by decide), (HRB.out z hz).cell (i := 1) (by decide), (HRB.out z hz).cell (i := 23) (by decide), (HRB.out z hz).cell (i := 24) (by decide), (HRB.out z hz).cell (i := 25) (by decide), (HRB.out z hz).cell (i := 26) (by decide), (HRB.out z hz).cell (i := 27) (by decide), (HRB.out z hz).cell (i := 28) (by decide), (HRB.out z hz).cell (i := 29) (by decide)⟩
  have HC2 : Hid (∀ z, Below (w.heap.size + 2) wb z → z.cell? ⟨w.heap.size, 2, none⟩ = some (.int .i64 l'.q.R) ∧ z.cell? ⟨w.heap.size, 3, none⟩ = some (.int .i64 l'.q.C) ∧ z.cell? ⟨w.heap.size, 4, none⟩ = some (.slice l'.q.O l'.q.n l'.q.c) ∧ z.cell? ⟨w.heap.size, 5, none⟩ = some (.int .i64 l'.k.R) ∧ z.cell? ⟨w.heap.size, 6, none⟩ = some (.int .i64 l'.k.C) ∧ z.cell? ⟨w.heap.size, 7, none⟩ = some (.slice l'.k.O l'.k.n l'.k.c) ∧ z.cell? ⟨w.heap.size, 8, none⟩ = some (.int .i64 l'.v.R) ∧ z.cell? ⟨w.heap.size, 9, none⟩ = some (.int .i64 l'.v.C) ∧ z.cell? ⟨w.heap.size, 10, none⟩ = some (.slice l'.v.O l'.v.n l'.v.c) ∧ z.cell? ⟨w.heap.size, 11, none⟩ = some (.int .i64 l'.o.R) ∧ z.cell? ⟨w.heap.size, 12, none⟩ = some (.int .i64 l'.o.C) ∧ z.cell? ⟨w.heap.size, 13, none⟩ = some (.slice l'.o.O l'.o.n l'.o.c) ∧ z.cell? ⟨w.heap.size + 1, 2, none⟩ = some (.int .i64 l.q.R) ∧ z.cell? ⟨w.heap.size + 1, 3, none⟩ = some (.int .i64 l.q.C) ∧ z.cell? ⟨w.heap.size + 1, 4, none⟩ = some (.slice l.q.O l.q.n l.q.c) ∧ z.cell? ⟨w.heap.size + 1, 5, none⟩ = some (.int .i64 l.k.R) ∧ z.cell? ⟨w.heap.size + 1, 6, none⟩ = some (.int .i64 l.k.C) ∧ z.cell? ⟨w.heap.size + 1, 7, none⟩ = some (.slice l.k.O l.k.n l.k.c) ∧ z.cell? ⟨w.heap.size + 1, 8, none⟩ = some (.int .i64 l.v.R) ∧ z.cell? ⟨w.heap.size + 1, 9, none⟩ = some (.int .i64 l.v.C) ∧ z.cell? ⟨w.heap.size + 1, 10, none⟩ = some (.slice l.v.O l.v.n l.v.c) ∧ z.cell? ⟨w.heap.size + 1, 11, none⟩ = some (.int .i64 l.o.R) ∧ z.cell? ⟨w.heap.size + 1, 12, none⟩ = some (.int .i64 l.o.C) ∧ z.cell? ⟨w.heap.size + 1, 13, none⟩ = some (.slice l.o.O l.o.n l.o.c)) := fun z hz => ⟨(HRA.out z hz).cell (i := 2) (by decide), (HRA.out z hz).cell (i := 3) (by decide), (HRA.out z hz).cell (i := 4) (by decide), (HRA.out z hz).cell (i := 5) (by decide), (HRA.out z hz).cell (i := 6) (by decide), (HRA.out z hz).cell (i := 7) (by decide), (HRA.out z hz).cell (i := 8) (by decide), (HRA.out z hz).cell (i := 9) (by decide), (HRA.out z hz).cell (i := 10) (by decide), (HRA.out z hz).cell (i := 11) (by decide), (HRA.out z hz).cell (i := 12) (by decide), (HRA.out z hz).cell (i := 13) (by decide), (HRB.out z hz).cell (i := 2) (by decide), (HRB.out z hz).cell (i := 3) (by decide), (HRB.out z hz).cell (i := 4) (by decide), (HRB.out z hz).cell (i := 5) (by decide), (HRB.out z hz).cell (i := 6) (by decide), (HRB.out z hz).cell (i := 7) (by decide), (HRB.out z hz).cell (i := 8) (by decide), (HRB.out z hz).cell (i := 9) (by decide), (HRB.out z hz).cell (i := 10) (by decide), (HRB.out z hz).cell (i := 11) (by decide), (HRB.out z hz).cell (i := 12) (by decide), (HRB.out z hz).cell (i := 13) (by decide)⟩
  have HC3 : Hid (∀ z, Below (w.heap.size + 2) wb z → z.cell? ⟨w.heap.size, 14, none⟩ = some (.int .i64 l'.g.R) ∧ z.cell? ⟨w.heap.size, 15, none⟩ = some (.int .i64 l'.g.C) ∧ z.cell? ⟨w.heap.size, 16, none⟩ = some (.slice l'.g.O l'.g.n l'.g.c) ∧ z.cell? ⟨w.heap.size, 17, none⟩ = some (.int .i64 l'.u.R) ∧ z.cell? ⟨w.heap.size, 18, none⟩ = some (.int .i64 l'.u.C) ∧ z.cell? ⟨w.heap.size, 19, none⟩ = some (.slice l'.u.O l'.u.n l'.u.c) ∧ z.cell? ⟨w.heap.size, 20, none⟩ = some (.int .i64 l'.d.R) ∧ z.cell? ⟨w.heap.size, 21, none⟩ = some (.int .i64 l'.d.C) ∧ z.cell? ⟨w.heap.size, 22, none⟩ = some (.slice l'.d.O l'.d.n l'.d.c) ∧ z.cell? ⟨w.heap.size + 1, 14, none⟩ = some (.int .i64 l.g.R) ∧ z.cell? ⟨w.heap.size + 1, 15, none⟩ = some (.int .i64 l.g.C) ∧ z.cell? ⟨w.heap.size + 1, 16, none⟩ = some (.slice l.g.O l.g.n l.g.c) ∧ z.cell? ⟨w.heap.size + 1, 17, none⟩ = some (.int .i64 l.u.R) ∧ z.cell? ⟨w.heap.size + 1, 18, none⟩ = some (.int .i64 l.u.C) ∧ z.cell? ⟨w.heap.size + 1, 19, none⟩ = some (.slice l.u.O l.u.n l.u.c) ∧ z.cell? ⟨w.heap.size + 1, 20, none⟩ = some (.int .i64 l.d.R) ∧ z.cell? ⟨w.heap.size + 1, 21, none⟩ = some (.int .i64 l.d.C) ∧ z.cell? ⟨w.heap.size + 1, 22, none⟩ = some (.slice l.d.O l.d.n l.d.c)) := fun z hz => ⟨(HRA.out z hz).cell (i := 14) (by decide), (HRA.out z hz).cell (i := 15) (by decide), (HRA.out z hz).cell (i := 16) (by decide), (HRA.out z hz).cell (i := 17) (by decide), (HRA.out z hz).cell (i := 18) (by decide), (HRA.out z hz).cell (i := 19) (by decide), (HRA.out z hz).cell (i := 20) (by decide), (HRA.out z hz).cell (i := 21) (by decide), (HRA.out z hz).cell (i := 22) (by decide), (HRB.out z hz).cell (i := 14) (by decide), (HRB.out z hz).cell (i := 15) (by decide), (HRB.out z hz).cell (i := 16) (by decide), (HRB.out z hz).cell (i := 17) (by decide), (HRB.out z hz).cell (i := 18) (by decide), (HRB.out z hz).cell (i := 19) (by decide), (HRB.out z hz).cell (i := 20) (by decide), (HRB.out z hz).cell (i := 21) (by decide), (HRB.out z hz).cell (i := 22) (by decide)⟩
  have HN0 : Hid (∀ z, Below (w.heap.size + 2) wb z → Calls Try.prog 44 #[.slice l'.n1.O l'.n1.n l'.n1.c, .slice l.n1.O l.n1.n l.n1.c] z fun e w' => e = .returned (.bool true) ∧ Below (w.heap.size + 2) wb w') := fun z hz => (eqNar_sm (h.n1.fresh (HLW.out z hz)) (h'.n1.fresh (HLW.out z hz)) hs.1).mono fun _ _ ⟨h1, h2⟩ => ⟨h1, hz.trans (h2.mono (HS.out z hz))⟩
  have HN1 : Hid (∀ z, Below (w.heap.size + 2) wb z → Calls Try.prog 44 #[.slice l'.n2.O l'.n2.n l'.n2.c, .slice l.n2.O l.n2.n l.n2.c] z fun e w' => e = .returned (.bool true) ∧ Below (w.heap.size + 2) wb w') := fun z hz => (eqNar_sm (h.n2.fresh (HLW.out z hz)) (h'.n2.fresh (HLW.out z hz)) hs.2.1).mono fun _ _ ⟨h1, h2⟩ => ⟨h1, hz.trans (h2.mono (HS.out z hz))⟩
  have HM0 : Hid (∀ z, Below (w.heap.size + 2) wb z → Calls Try.prog 41 #[.agg #[.int .i64 l'.q.R, .int .i64 l'.q.C, .slice l'.q.O l'.q.n l'.q.c], .agg #[.int .i64 l.q.R, .int .i64 l.q.C, .slice l.q.O l.q.n l.q.c]] z fun e w' => e = .returned (.bool true) ∧ Below (w.heap.size + 2) wb w') := fun z hz => (eqMat_same (h.q.fresh (HLW.out z hz)) (h'.q.fresh (HLW.out z hz)) (hs.2.2.1 0 (by decide))).mono fun _ _ ⟨h1, h2⟩ => ⟨h1, hz.trans (h2.mono (HS.out z hz))⟩
  have HM1 : Hid (∀ z, Below (w.heap.size + 2) wb z → Calls Try.prog 41 #[.agg #[.int .i64 l'.k.R, .int .i64 l'.k.C, .slice l'.k.O l'.k.n l'.k.c], .agg #[.int .i64 l.k.R, .int .i64 l.k.C, .slice l.k.O l.k.n l.k.c]] z fun e w' => e = .returned (.bool true) ∧ Below (w.heap.size + 2) wb w') := fun z hz => (eqMat_same (h.k.fresh (HLW.out z hz)) (h'.k.fresh (HLW.out z hz)) (hs.2.2.1 1 (by decide))).mono fun _ _ ⟨h1, h2⟩ => ⟨h1, hz.trans (h2.mono (HS.out z hz))⟩
  have HM2 : Hid (∀ z, Below (w.heap.size + 2) wb z → Calls Try.prog 41 #[.agg #[.int .i64 l'.v.R, .int .i64 l'.v.C, .slice l'.v.O l'.v.n l'.v.c], .agg #[.int .i64 l.v.R, .int .i64 l.v.C, .slice l.v.O l.v.n l.v.c]] z fun e w' => e = .returned (.bool true) ∧ Below (w.heap.size + 2) wb w') := fun z hz => (eqMat_same (h.v.fresh (HLW.out z hz)) (h'.v.fresh (HLW.out z hz)) (hs.2.2.1 2 (by decide))).mono fun _ _ ⟨h1, h2⟩ => ⟨h1, hz.trans (h2.mono (HS.out z hz))⟩
  have HM3 : Hid (∀ z, Below (w.heap.size + 2) wb z → Calls Try.prog 41 #[.agg #[.int .i64 l'.o.R, .int .i64 l'.o.C, .slice l'.o.O l'.o.n l'.o.c], .agg #[.int .i64 l.o.R, .int .i64 l.o.C, .slice l.o.O l.o.n l.o.c]] z fun e w' => e = .returned (.bool true) ∧ Below (w.heap.size + 2) wb w') := fun z hz => (eqMat_same (h.o.fresh (HLW.out z hz)) (h'.o.fresh (HLW.out z hz)) (hs.2.2.1 3 (by decide))).mono fun _ _ ⟨h1, h2⟩ => ⟨h1, hz.trans (h2.mono (HS.out z hz))⟩
  have HM4 : Hid (∀ z, Below (w.heap.size + 2) wb z → Calls Try.prog 41 #[.agg #[.int .i64 l'.g.R, .int .i64 l'.g.C, .slice l'.g.O l'.g.n l'.g.c], .agg #[.int .i64 l.g.R, .int .i64 l.g.C, .slice l.g.O l.g.n l.g.c]] z fun e w' => e = .returned (.bool true) ∧ Below (w.heap.size + 2) wb w') := fun z hz => (eqMat_same (h.g.fresh (HLW.out z hz)) (h'.g.fresh (HLW.out z hz)) (hs.2.2.1 4 (by decide))).mono fun _ _ ⟨h1, h2⟩ => ⟨h1, hz.trans (h2.mono (HS.out z hz))⟩
  have HM5 : Hid (∀ z, Below (w.heap.size + 2) wb z → Calls Try.prog 41 #[.agg #[.int .i64 l'.u.R, .int .i64 l'.u.C, .slice l'.u.O l'.u.n l'.u.c], .agg #[.int .i64 l.u.R, .int .i64 l.u.C, .slice l.u.O l.u.n l.u.c]] z fun e w' => e = .returned (.bool true) ∧ Below (w.heap.size + 2) wb w') := fun z hz => (eqMat_same (h.u.fresh (HLW.out z hz)) (h'.u.fresh (HLW.out z hz)) (hs.2.2.1 5 (by decide))).mono fun _ _ ⟨h1, h2⟩ => ⟨h1, hz.trans (h2.mono (HS.out z hz))⟩
  have HM6 : Hid (∀ z, Below (w.heap.size + 2) wb z → Calls Try.prog 41 #[.agg #[.int .i64 l'.d.R, .int .i64 l'.d.C, .slice l'.d.O l'.d.n l'.d.c], .agg #[.int .i64 l.d.R, .int .i64 l.d.C, .slice l.d.O l.d.n l.d.c]] z fun e w' => e = .returned (.bool true) ∧ Below (w.heap.size + 2) wb w') := fun z hz => (eqMat_same (h.d.fresh (HLW.out z hz)) (h'.d.fresh (HLW.out z hz)) (hs.2.2.1 6 (by decide))).mono fun _ _ ⟨h1, h2⟩ => ⟨h1, hz.trans (h2.mono (HS.out z hz))⟩
  have HA := hidd ha
  have HB := hidd hb
  clear h h' hs ra rb f1 f2 s2 HRA HRB HS ha hb
  have h7 : ∀ z : World, (Op.equalIn 10000 65 (.agg #[.int .i64 (l.sh 0), .int .i64 (l.sh 1), .int .i64 (l.sh 2), .int .i64 (l.sh 3), .int .i64 (l.sh 4), .int .i64 (l.sh 5), .int .i64 (l.sh 6)]) (.agg #[.int .i64 (l.sh 0), .int .i64 (l.sh 1), .int .i64 (l.sh 2), .int .i64 (l.sh 3), .int .i64 (l.sh 4), .int .i64 (l.sh 5), .int .i64 (l.sh 6)])).run Try.prog z = .ok true z := fun z => eql7 l.sh l.sh true (by simp) z
  have HD : Hid (Below (w.heap.size + 2) wb wb) := Below.refl _ _
  go_enter Try.func43, Try.ntmps43
  go_upto_region 1 with fail
  rw [← HA.out, ← HB.out]
  clear HA HB
  obtain ⟨ca0, ca1, ca23, ca24, ca25, ca26, ca27, ca28, ca29, cb0, cb1, cb23, cb24, cb25, cb26, cb27, cb28, cb29⟩ := HC1.out _ HD.out
  clear ca1 ca23 ca24 ca25 ca26 ca27 ca28 ca29 cb1 cb23 cb24 cb25 cb26 cb27 cb28 cb29
  go_wp2_with fail
  refine (HN0.out _ HD.out).mono ?_
  rintro e w0 ⟨rfl, f0⟩
  have G0 := hidd f0
  clear f0 ca0 cb0 HD HN0
  obtain ⟨ca0, ca1, ca23, ca24, ca25, ca26, ca27, ca28, ca29, cb0, cb1, cb23, cb24, cb25, cb26, cb27, cb28, cb29⟩ := HC1.out _ G0.out
  clear ca0 ca23 ca24 ca25 ca26 ca27 ca28 ca29 cb0 cb23 cb24 cb25 cb26 cb27 cb28 cb29
  go_wp2_with fail
  refine (HN1.out _ G0.out).mono ?_
  rintro e w1 ⟨rfl, f1⟩
  have G1 := hidd f1
  clear f1 ca1 cb1 G0 HN1
  obtain ⟨da0, da1, da23, da24, da25, da26, da27, da28, da29, db0, db1, db23, db24, db25, db26, db27, db28, db29⟩ := HC1.out _ G1.out
  clear da0 da1 db0 db1
  obtain ⟨ca2, ca3, ca4, ca5, ca6, ca7, ca8, ca9, ca10, ca11, ca12, ca13, cb2, cb3, cb4, cb5, cb6, cb7, cb8, cb9, cb10, cb11, cb12, cb13⟩ := HC2.out _ G1.out
  clear ca5 ca6 ca7 ca8 ca9 ca10 ca11 ca12 ca13 cb5 cb6 cb7 cb8 cb9 cb10 cb11 cb12 cb13
  go_wp2_with fail
  refine (HM0.out _ G1.out).mono ?_
  rintro e w2 ⟨rfl, f2⟩
  have G2 := hidd f2
  clear f2 ca2 ca3 ca4 cb2 cb3 cb4 G1 HM0
  clear h7 da23 da24 da25 da26 da27 da28 da29 db23 db24 db25 db26 db27 db28 db29
  obtain ⟨ca2, ca3, ca4, ca5, ca6, ca7, ca8, ca9, ca10, ca11, ca12, ca13, cb2, cb3, cb4, cb5, cb6, cb7, cb8, cb9, cb10, cb11, cb12, cb13⟩ := HC2.out _ G2.out
  clear ca2 ca3 ca4 ca8 ca9 ca10 ca11 ca12 ca13 cb2 cb3 cb4 cb8 cb9 cb10 cb11 cb12 cb13
  go_wp2_with fail
  refine (HM1.out _ G2.out).mono ?_
  rintro e w3 ⟨rfl, f3⟩
  have G3 := hidd f3
  clear f3 ca5 ca6 ca7 cb5 cb6 cb7 G2 HM1
  obtain ⟨ca2, ca3, ca4, ca5, ca6, ca7, ca8, ca9, ca10, ca11, ca12, ca13, cb2, cb3, cb4, cb5, cb6, cb7, cb8, cb9, cb10, cb11, cb12, cb13⟩ := HC2.out _ G3.out
  clear ca2 ca3 ca4 ca5 ca6 ca7 ca11 ca12 ca13 cb2 cb3 cb4 cb5 cb6 cb7 cb11 cb12 cb13
  go_wp2_with fail
  refine (HM2.out _ G3.out).mono ?_
  rintro e w4 ⟨rfl, f4⟩
  have G4 := hidd f4
  clear f4 ca8 ca9 ca10 cb8 cb9 cb10 G3 HM2
  obtain ⟨ca2, ca3, ca4, ca5, ca6, ca7, ca8, ca9, ca10, ca11, ca12, ca13, cb2, cb3, cb4, cb5, cb6, cb7, cb8, cb9, cb10, cb11, cb12, cb13⟩ := HC2.out _ G4.out
  clear ca2 ca3 ca4 ca5 ca6 ca7 ca8 ca9 ca10 cb2 cb3 cb4 cb5 cb6 cb7 cb8 cb9 cb10
  go_wp2_with fail
  refine (HM3.out _ G4.out).mono ?_
  rintro e w5 ⟨rfl, f5⟩
  have G5 := hidd f5
  clear f5 ca11 ca12 ca13 cb11 cb12 cb13 G4 HM3
  obtain ⟨ca14, ca15, ca16, ca17, ca18, ca19, ca20, ca21, ca22, cb14, cb15, cb16, cb17, cb18, cb19, cb20, cb21, cb22⟩ := HC3.out _ G5.out
  clear ca17 ca18 ca19 ca20 ca21 ca22 cb17 cb18 cb19 cb20 cb21 cb22
  go_wp2_with fail
  refine (HM4.out _ G5.out).mono ?_
  rintro e w6 ⟨rfl, f6⟩
  have G6 := hidd f6
  clear f6 ca14 ca15 ca16 cb14 cb15 cb16 G5 HM4
  obtain ⟨ca14, ca15, ca16, ca17, ca18, ca19, ca20, ca21, ca22, cb14, cb15, cb16, cb17, cb18, cb19, cb20, cb21, cb22⟩ := HC3.out _ G6.out
  clear ca14 ca15 ca16 ca20 ca21 ca22 cb14 cb15 cb16 cb20 cb21 cb22
  go_wp2_with fail
  refine (HM5.out _ G6.out).mono ?_
  rintro e w7 ⟨rfl, f7⟩
  have G7 := hidd f7
  clear f7 ca17 ca18 ca19 cb17 cb18 cb19 G6 HM5
  obtain ⟨ca14, ca15, ca16, ca17, ca18, ca19, ca20, ca21, ca22, cb14, cb15, cb16, cb17, cb18, cb19, cb20, cb21, cb22⟩ := HC3.out _ G7.out
  clear ca14 ca15 ca16 ca17 ca18 ca19 cb14 cb15 cb16 cb17 cb18 cb19
  go_wp2_with fail
  refine (HM6.out _ G7.out).mono ?_
  rintro e w8 ⟨rfl, f8⟩
  have G8 := hidd f8
  clear f8 ca20 ca21 ca22 cb20 cb21 cb22 G7 HM6
  go_wp2
  go_ret
  exact ⟨rfl, HLW.out _ G8.out⟩
end Go.Proofs.Ytilghknalbhacaa
namespace Go.Proofs.Ytilghknalbhacaa
open Go.RowKit
/-! Two weights that are alike. -/
theorem eqLay_sm {w : World} {l l' : LyD} (h : LyR w l) (h' : LyR w l') (hs : SmL l l') :
    Calls Try.prog 43 #[.agg (lyA l'), .agg (lyA l)] w fun e w' => e = .returned (.bool true) ∧ Below w.heap.size w w' := by
  have h9 := eqLay_same h h' hs
  have e := hs.2.2.2
  unfold lyA lyL
  rw [e]
  exact h9
set_option maxRecDepth 100000 in
set_option maxHeartbeats 8000000 in
theorem eqWts_same {w : World} {x y : WtD} (h : WtR w x) (h' : WtR w y) (hs : BS x y) (hsy : ∀ j, j < x.yn → SmL (x.ly j) (y.ly j)) (hsm : ∀ j, j < x.mn → SmM (x.md j) (y.md j)) :
    Calls Try.prog 16 #[.agg #[.int .i64 x.V, .int .i64 x.W, .int .i64 x.H, .int .i64 x.K, .int .i64 x.L, .int .i64 x.D, .int .i64 x.N, .int .i64 x.M, .int .i64 y.E.R, .int .i64 y.E.C, .slice y.E.O y.E.n y.E.c, .slice y.tO x.tn y.tc, .slice y.yO x.yn y.yc, .slice y.F.O y.F.n y.F.c, .int .i64 y.Q.R, .int .i64 y.Q.C, .slice y.Q.O y.Q.n y.Q.c, .slice y.mO x.mn y.mc], .agg #[.int .i64 x.V, .int .i64 x.W, .int .i64 x.H, .int .i64 x.K, .int .i64 x.L, .int .i64 x.D, .int .i64 x.N, .int .i64 x.M, .int .i64 x.E.R, .int .i64 x.E.C, .slice x.E.O x.E.n x.E.c, .slice x.tO x.tn x.tc, .slice x.yO x.yn x.yc, .slice x.F.O x.F.n x.F.c, .int .i64 x.Q.R, .int .i64 x.Q.C, .slice x.Q.O x.Q.n x.Q.c, .slice x.mO x.mn x.mc]] w fun e w' => e = .returned (.bool true) ∧ Below w.heap.size w w' := by
  obtain ⟨wa, ha⟩ : ∃ wa, wa = w.alloc (.cells #[.int .i64 x.V, .int .i64 x.W, .int .i64 x.H, .int .i64 x.K, .int .i64 x.L, .int .i64 x.D, .int .i64 x.N, .int .i64 x.M, .int .i64 y.E.R, .int .i64 y.E.C, .slice y.E.O y.E.n y.E.c, .slice y.tO x.tn y.tc, .slice y.yO x.yn y.yc, .slice y.F.O y.F.n y.F.c, .int .i64 y.Q.R, .int .i64 y.Q.C, .slice y.Q.O y.Q.n y.Q.c, .slice y.mO x.mn y.mc] 34) := ⟨_, rfl⟩
  obtain ⟨wb, hb⟩ : ∃ wb, wb = wa.alloc (.cells #[.int .i64 x.V, .int .i64 x.W, .int .i64 x.H, .int .i64 x.K, .int .i64 x.L, .int .i64 x.D, .int .i64 x.N, .int .i64 x.M, .int .i64 x.E.R, .int .i64 x.E.C, .slice x.E.O x.E.n x.E.c, .slice x.tO x.tn x.tc, .slice x.yO x.yn x.yc, .slice x.F.O x.F.n x.F.c, .int .i64 x.Q.R, .int .i64 x.Q.C, .slice x.Q.O x.Q.n x.Q.c, .slice x.mO x.mn x.mc] 34) := ⟨_, rfl⟩
  have s1 : wa.heap.size = w.heap.size + 1 := by rw [ha]; simp
  have s2 : wb.heap.size = w.heap.size + 2 := by rw [hb]; simp [s1]
  have ra : wa.rowIs w.heap.size 34 18 (fun i => (#[.int .i64 x.V, .int .i64 x.W, .int .i64 x.H, .int .i64 x.K, .int .i64 x.L, .int .i64 x.D, .int .i64 x.N, .int .i64 x.M, .int .i64 y.E.R, .int .i64 y.E.C, .slice y.E.O y.E.n y.E.c, .slice y.tO x.tn y.tc, .slice y.yO x.yn y.yc, .slice y.F.O y.F.n y.F.c, .int .i64 y.Q.R, .int .i64 y.Q.C, .slice y.Q.O y.Q.n y.Q.c, .slice y.mO x.mn y.mc] : Array Value).toList.getD i undef) := by rw [ha]; exact World.rowIs_list w _ 34
  have rb : wb.rowIs (w.heap.size + 1) 34 18 (fun i => (#[.int .i64 x.V, .int .i64 x.W, .int .i64 x.H, .int .i64 x.K, .int .i64 x.L, .int .i64 x.D, .int .i64 x.N, .int .i64 x.M, .int .i64 x.E.R, .int .i64 x.E.C, .slice x.E.O x.E.n x.E.c, .slice x.tO x.tn x.tc, .slice x.yO x.yn x.yc, .slice x.F.O x.F.n x.F.c, .int .i64 x.Q.R, .int .i64 x.Q.C, .slice x.Q.O x.Q.n x.Q.c, .slice x.mO x.mn x.mc] : Array Value).toList.getD i undef) := by rw [hb, ← s1]; exact World.rowIs_list wa _ 34
  have f1 : Below w.heap.size w wa := by rw [ha]; exact fresh_alloc _ _
  have f2 : Below wa.heap.size wa wb := by rw [hb]; exact fresh_alloc _ _
  have HLW : Hid (∀ z, Below (w.heap.size + 2) wb z → Below w.heap.size w z) := fun z hz => (fresh_trans f1 f2).trans (hz.mono (by omega))
  have HS : Hid (∀ z, Below (w.heap.size + 2) wb z → w.heap.size + 2 ≤ z.heap.size) := fun z hz => by have := hz.size; omega
  have HRA : Hid (∀ z, Below (w.heap.size + 2) wb z → z.rowIs w.heap.size 34 18 (fun i => (#[.int .i64 x.V, .int .i64 x.W, .int .i64 x.H, .int .i64 x.K, .int .i64 x.L, .int .i64 x.D, .int .i64 x.N, .int .i64 x.M, .int .i64 y.E.R, .int .i64 y.E.C, .slice y.E.O y.E.n y.E.c, .slice y.tO x.tn y.tc, .slice y.yO x.yn y.yc, .slice y.F.O y.F.n y.F.c, .int .i64 y.Q.R, .int .i64 y.Q.C, .slice y.Q.O y.Q.n y.Q.c, .slice y.mO x.mn y.mc] : Array Value).toList.getD i undef)) := fun z hz => (ra.of_block (f2.block _ (by omega))).of_block (hz.block _ (by omega))
  have HRB : Hid (∀ z, Below (w.heap.size + 2) wb z → z.rowIs (w.heap.size + 1) 34 18 (fun i => (#[.int .i64 x.V, .int .i64 x.W, .int .i64 x.H, .int .i64 x.K, .int .i64 x.L, .int .i64 x.D, .int .i64 x.N, .int .i64 x.M, .int .i64 x.E.R, .int .i64 x.E.C, .slice x.E.O x.E.n x.E.c, .slice x.tO x.tn x.tc, .slice x.yO x.yn x.yc, .slice x.F.O x.F.n x.F.c, .int .i64 x.Q.R, .int .i64 x.Q.C, .slice x.Q.O x.Q.n x.Q.c, .slice x.mO x.mn x.mc] : Array Value).toList.getD i undef)) := fun z hz => rb.of_block (hz.block _ (by omega))
  have HCC : Hid (∀ z, Below (w.heap.size + 2) wb z → z.cell? ⟨w.heap.size, 0, none⟩ = some (.int .i64 x.V) ∧ z.cell? ⟨w.heap.size, 1, none⟩ = some (.int .i64 x.W) ∧ z.cell? ⟨w.heap.size, 2, none⟩ = some (.int .i64 x.H) ∧ z.cell? ⟨w.heap.size, 3, none⟩ = some (.int .i64 x.K) ∧ z.cell? ⟨w.heap.size, 4, none⟩ = some (.int .i64 x.L) ∧ z.cell? ⟨w.heap.size, 5, none⟩ = some (.int .i64 x.D) ∧ z.cell? ⟨w.heap.size, 6, none⟩ = some (.int .i64 x.N) ∧ z.cell? ⟨w.heap.size, 7, none⟩ = some (.int .i64 x.M) ∧ z.cell? ⟨w.heap.size + 1, 0, none⟩ = some (.int .i64 x.V) ∧ z.cell? ⟨w.heap.size + 1, 1, none⟩ = some (.int .i64 x.W) ∧ z.cell? ⟨w.heap.size + 1, 2, none⟩ = some (.int .i64 x.H) ∧ z.cell? ⟨w.heap.size + 1, 3, none⟩ = some (.int .i64 x.K) ∧ z.cell? ⟨w.heap.size + 1, 4, none⟩ = some (.int .i64 x.L) ∧ z.cell? ⟨w.heap.size + 1, 5, none⟩ = some (.int .i64 x.D) ∧ z.cell? ⟨w.heap.size + 1, 6, none⟩ = some (.int .i64 x.N) ∧ z.cell? ⟨w.heap.size + 1, 7, none⟩ = some (.int .i64 x.M)) := fun z hz => ⟨(HRA.out z hz).cell (i := 0) (by decide), (HRA.out z hz).cell (i := 1) (by decide), (HRA.out z hz).cell (i := 2) (by decide), (HRA.out z hz).cell (i := 3) (by decide), (HRA.out z hz).cell (i := 4) (by decide), (HRA.out z hz).cell (i := 5) (by decide), (HRA.out z hz).cell (i := 6) (by decide), (HRA.out z hz).cell (i := 7) (by decide), (HRB.out z hz).cell (i := 0) (by decide), (HRB.out z hz).cell (i := 1) (by decide), (HRB.out z hz).cell (i := 2) (by decide), (HRB.out z hz).cell (i := 3) (by decide), (HRB.out z hz).cell (i := 4) (by decide), (HRB.out z hz).cell (i := 5) (by decide), (HRB.out z hz).cell (i := 6) (by decide), (HRB.out z hz).cell (i := 7) (by decide)⟩
  have HCE : Hid (∀ z, Below (w.heap.size + 2) wb z → z.cell? ⟨w.heap.size, 8, none⟩ = some (.int .i64 y.E.R) ∧ z.cell? ⟨w.heap.size, 9, none⟩ = some (.int .i64 y.E.C) ∧ z.cell? ⟨w.heap.size, 10, none⟩ = some (.slice y.E.O y.E.n y.E.c) ∧ z.cell? ⟨w.heap.size + 1, 8, none⟩ = some (.int .i64 x.E.R) ∧ z.cell? ⟨w.heap.size + 1, 9, none⟩ = some (.int .i64 x.E.C) ∧ z.cell? ⟨w.heap.size + 1, 10, none⟩ = some (.slice x.E.O x.E.n x.E.c)) := fun z hz => ⟨(HRA.out z hz).cell (i := 8) (by decide), (HRA.out z hz).cell (i := 9) (by decide), (HRA.out z hz).cell (i := 10) (by decide), (HRB.out z hz).cell (i := 8) (by decide), (HRB.out z hz).cell (i := 9) (by decide), (HRB.out z hz).cell (i := 10) (by decide)⟩
  have HCT : Hid (∀ z, Below (w.heap.size + 2) wb z → z.cell? ⟨w.heap.size, 11, none⟩ = some (.slice y.tO x.tn y.tc) ∧ z.cell? ⟨w.heap.size + 1, 11, none⟩ = some (.slice x.tO x.tn x.tc)) := fun z hz => ⟨(HRA.out z hz).cell (i := 11) (by decide), (HRB.out z hz).cell (i := 11) (by decide)⟩
  have HCY : Hid (∀ z, Below (w.heap.size + 2) wb z → z.cell? ⟨w.heap.size, 12, none⟩ = some (.slice y.yO x.yn y.yc) ∧ z.cell? ⟨w.heap.size + 1, 12, none⟩ = some (.slice x.yO x.yn x.yc)) := fun z hz => ⟨(HRA.out z hz).cell (i := 12) (by decide), (HRB.out z hz).cell (i := 12) (by decide)⟩
  have HCM : Hid (∀ z, Below (w.heap.size + 2) wb z → z.cell? ⟨w.heap.size, 17, none⟩ = some (.slice y.mO x.mn y.mc) ∧ z.cell? ⟨w.heap.size + 1, 17, none⟩ = some (.slice x.mO x.mn x.mc)) := fun z hz => ⟨(HRA.out z hz).cell (i := 17) (by decide), (HRB.out z hz).cell (i := 17) (by decide)⟩
  have HCF : Hid (∀ z, Below (w.heap.size + 2) wb z → z.cell? ⟨w.heap.size, 13, none⟩ = some (.slice y.F.O y.F.n y.F.c) ∧ z.cell? ⟨w.heap.size + 1, 13, none⟩ = some (.slice x.F.O x.F.n x.F.c)) := fun z hz => ⟨(HRA.out z hz).cell (i := 13) (by decide), (HRB.out z hz).cell (i := 13) (by decide)⟩
  have HCQ : Hid (∀ z, Below (w.heap.size + 2) wb z → z.cell? ⟨w.heap.size, 14, none⟩ = some (.int .i64 y.Q.R) ∧ z.cell? ⟨w.heap.size, 15, none⟩ = some (.int .i64 y.Q.C) ∧ z.cell? ⟨w.heap.size, 16, none⟩ = some (.slice y.Q.O y.Q.n y.Q.c) ∧ z.cell? ⟨w.heap.size + 1, 14, none⟩ = some (.int .i64 x.Q.R) ∧ z.cell? ⟨w.heap.size + 1, 15, none⟩ = some (.int .i64 x.Q.C) ∧ z.cell? ⟨w.heap.size + 1, 16, none⟩ = some (.slice x.Q.O x.Q.n x.Q.c)) := fun z hz => ⟨(HRA.out z hz).cell (i := 14) (by decide), (HRA.out z hz).cell (i := 15) (by decide), (HRA.out z hz).cell (i := 16) (by decide), (HRB.out z hz).cell (i := 14) (by decide), (HRB.out z hz).cell (i := 15) (by decide), (HRB.out z hz).cell (i := 16) (by decide)⟩
  have KC : Hid (∀ z, Below (w.heap.size + 2) wb z → Calls Try.prog 40 #[.agg #[.int .i64 x.V, .int .i64 x.W, .int .i64 x.H, .int .i64 x.K, .int .i64 x.L, .int .i64 x.D, .int .i64 x.N, .int .i64 x.M], .agg #[.int .i64 x.V, .int .i64 x.W, .int .i64 x.H, .int .i64 x.K, .int .i64 x.L, .int .i64 x.D, .int .i64 x.N, .int .i64 x.M]] z fun e w' => e = .returned (.bool true) ∧ Below (w.heap.size + 2) wb w') := fun z hz => (eqCfg_same z x.V x.W x.H x.K x.L x.D x.N x.M).mono fun _ _ ⟨h1, h2⟩ => ⟨h1, hz.trans (h2.mono (HS.out z hz))⟩
  have KE : Hid (∀ z, Below (w.heap.size + 2) wb z → Calls Try.prog 41 #[.agg #[.int .i64 y.E.R, .int .i64 y.E.C, .slice y.E.O y.E.n y.E.c], .agg #[.int .i64 x.E.R, .int .i64 x.E.C, .slice x.E.O x.E.n x.E.c]] z fun e w' => e = .returned (.bool true) ∧ Below (w.heap.size + 2) wb w') := fun z hz => (eqMat_same (h.E.fresh (HLW.out z hz)) (h'.E.fresh (HLW.out z hz)) hs.E).mono fun _ _ ⟨h1, h2⟩ => ⟨h1, hz.trans (h2.mono (HS.out z hz))⟩
  have KQ : Hid (∀ z, Below (w.heap.size + 2) wb z → Calls Try.prog 41 #[.agg #[.int .i64 y.Q.R, .int .i64 y.Q.C, .slice y.Q.O y.Q.n y.Q.c], .agg #[.int .i64 x.Q.R, .int .i64 x.Q.C, .slice x.Q.O x.Q.n x.Q.c]] z fun e w' => e = .returned (.bool true) ∧ Below (w.heap.size + 2) wb w') := fun z hz => (eqMat_same (h.Q.fresh (HLW.out z hz)) (h'.Q.fresh (HLW.out z hz)) hs.Q).mono fun _ _ ⟨h1, h2⟩ => ⟨h1, hz.trans (h2.mono (HS.out z hz))⟩
  have KT : Hid (∀ z, Below (w.heap.size + 2) wb z → Calls Try.prog 42 #[.slice y.tO x.tn y.tc, .slice x.tO x.tn x.tc] z fun e w' => e = .returned (.bool true) ∧ Below (w.heap.size + 2) wb w') := fun z hz => (eqTurns_same (C := y.tC) (S := y.tS) (by have h9 := h'.T; rw [hs.T.1] at h9; exact h9.fresh (HLW.out z hz)) (h.T.fresh (HLW.out z hz)) (fun i _ => by rw [hs.T.2.1]) (fun i _ => by rw [hs.T.2.2])).mono fun _ _ ⟨h1, h2⟩ => ⟨h1, hz.trans (h2.mono (HS.out z hz))⟩
  have KF : Hid (∀ z, Below (w.heap.size + 2) wb z → Calls Try.prog 44 #[.slice y.F.O y.F.n y.F.c, .slice x.F.O x.F.n x.F.c] z fun e w' => e = .returned (.bool true) ∧ Below (w.heap.size + 2) wb w') := fun z hz => (eqNar_sm (h.F.fresh (HLW.out z hz)) (h'.F.fresh (HLW.out z hz)) hs.F).mono fun _ _ ⟨h1, h2⟩ => ⟨h1, hz.trans (h2.mono (HS.out z hz))⟩
  have KY : Hid (∀ k, k < x.yn → ∀ z, Below (w.heap.size + 2) wb z → Calls Try.prog 43 #[.agg (lyA (y.ly k)), .agg (lyA (x.ly k))] z fun e w' => e = .returned (.bool true) ∧ Below z.heap.size z w') := fun k hk z hz => (eqLay_sm ((h.yr k hk).fresh (HLW.out z hz)) ((h'.yr k (by rw [hs.Y]; exact hk)).fresh (HLW.out z hz)) (hsy k hk))
  have KM : Hid (∀ k, k < x.mn → ∀ z, Below (w.heap.size + 2) wb z → Calls Try.prog 41 #[.agg #[.int .i64 (y.md k).R, .int .i64 (y.md k).C, .slice (y.md k).O (y.md k).n (y.md k).c], .agg #[.int .i64 (x.md k).R, .int .i64 (x.md k).C, .slice (x.md k).O (x.md k).n (x.md k).c]] z fun e w' => e = .returned (.bool true) ∧ Below z.heap.size z w') := fun k hk z hz => (eqMat_same ((h.mr k hk).fresh (HLW.out z hz)) ((h'.mr k (by rw [hs.M]; exact hk)).fresh (HLW.out z hz)) (hsm k hk))
  have HX := hidd h
  have HY := hidd h'
  have EY := hidd hs.Y
  have EM := hidd hs.M
  have HA := hidd ha
  have HB := hidd hb
  clear h h' hs hsy hsm ra rb f1 f2 s2 HRA HRB ha hb
  have HD : Hid (Below (w.heap.size + 2) wb wb) := Below.refl _ _
  go_enter Try.func16, Try.ntmps16
  go_upto_region 1 with fail
  rw [← HA.out, ← HB.out]
  clear HA HB
  obtain ⟨ca0, ca1, ca2, ca3, ca4, ca5, ca6, ca7, cb0, cb1, cb2, cb3, cb4, cb5, cb6, cb7⟩ := HCC.out _ HD.out
  go_wp2_with fail
  refine (KC.out _ HD.out).mono ?_
  rintro e w0 ⟨rfl, f0⟩
  have G0 := hidd f0
  clear f0 ca0 ca1 ca2 ca3 ca4 ca5 ca6 ca7 cb0 cb1 cb2 cb3 cb4 cb5 cb6 cb7 HD KC HCC
  obtain ⟨ca8, ca9, ca10, cb8, cb9, cb10⟩ := HCE.out _ G0.out
  go_wp2_with fail
  refine (KE.out _ G0.out).mono ?_
  rintro e w1 ⟨rfl, f1⟩
  have G1 := hidd f1
  clear f1 ca8 ca9 ca10 cb8 cb9 cb10 G0 KE HCE
  obtain ⟨ca11, cb11⟩ := HCT.out _ G1.out
  go_wp2_with fail
  refine (KT.out _ G1.out).mono ?_
  rintro e w2 ⟨rfl, f2⟩
  have G2 := hidd f2
  clear f2 ca11 cb11 G1 KT HCT
  obtain ⟨ca12, cb12⟩ := HCY.out _ G2.out
  obtain ⟨ca17, cb17⟩ := HCM.out _ G2.out
  have hyn := HX.out.yle
  have hyt := HX.out.ytop
  have hmn := HX.out.mle
  have hmt := HX.out.mtop
  unfold maxLen at hyt hmt
  go_wp2
  clear ca12 ca17 cb12 cb17
  go_loopw [5, 6] (fun i _ wr => ∃ k : Nat, k ≤ x.yn ∧ i = .int .i64 (k : Int) ∧ Hid (Below (w.heap.size + 2) wb wr)) (fun i _ _ => x.yn - (intOf i).toNat)
  case atStart => exact ⟨0, Nat.zero_le _, by simp, G2.out⟩
  case round =>
    clear G2
    obtain ⟨k, hk, rfl, HB⟩ := hrel
    obtain ⟨ca12, cb12⟩ := HCY.out _ HB.out
    by_cases hlt : k < x.yn
    · have i0 : (0 : Int) ≤ (k : Int) := by omega
      have i1 : (k : Int) < (x.yn : Int) := by omega
      obtain ⟨xb, xf, ex, hxc⟩ := HX.out.yat (by omega)
      obtain ⟨yb, yf, ey, hyc⟩ := HY.out.yat (by have := EY.out; omega)
      rw [ex] at cb12
      rw [ey] at ca12
      obtain ⟨T, hT⟩ : ∃ T, T = lyA (x.ly k) := ⟨_, rfl⟩
      obtain ⟨U, hU⟩ : ∃ U, U = lyA (y.ly k) := ⟨_, rfl⟩
      have RG : Hid (wr.rangeAt xb (xf + k * 30) T.toList) := by rw [hT]; exact fun j v h => fresh_cell (HLW.out _ HB.out) ((hxc k hlt).range j v h)
      have RU : Hid (wr.rangeAt yb (yf + k * 30) U.toList) := by rw [hU]; exact fun j v h => fresh_cell (HLW.out _ HB.out) ((hyc k (by have := EY.out; omega)).range j v h)
      have SL : Hid ((Try.prog.info? 67).map (·.size) = some T.toList.length) := by rw [hT]; exact sizeL
      have SU : Hid ((Try.prog.info? 67).map (·.size) = some U.toList.length) := by rw [hU]; exact sizeL
      have HC : Hid (∀ z, Below (w.heap.size + 2) wb z → Calls Try.prog 43 #[.agg U, .agg T] z fun e w' => e = .returned (.bool true) ∧ Below z.heap.size z w') := by rw [hT, hU]; exact KY.out k hlt
      have HSW : Hid (w.heap.size + 2 ≤ wr.heap.size) := HS.out _ HB.out
      clear hxc hyc ex ey hT hU
      go_wp2
      replace ca12 := later_cell ca12; replace cb12 := later_cell cb12
      have ne := later_some wr
      refine wp_region_later (by kernel_rfl) (by kernel_rfl) ?_
      iterate 4 (go_big_quiet_step (fail))
      refine Go.BigFrame.wpQuiet_want (by rfl) (fun K9 hK9 => ?_)
      refine quiet_load_mid 67 _ rfl yb (yf + k * 30) rfl U.toList _ (fun w9 hw9 => by obtain ⟨z9, rfl⟩ := hw9; exact fun j v h => fresh_cell z9.fresh (RU.out j v h)) Try.underlying67 rfl SU.out (hK9 _ ?_)
      rw [put_list]
      simp only [List.set_cons_succ, List.set_cons_zero]
      iterate 4 (go_big_quiet_step (fail))
      refine Go.BigFrame.wpQuiet_want (by rfl) (fun K9 hK9 => ?_)
      refine quiet_load_mid 67 _ rfl xb (xf + k * 30) rfl T.toList _ (fun w9 hw9 => by obtain ⟨z9, rfl⟩ := hw9; exact fun j v h => fresh_cell z9.fresh (RG.out j v h)) Try.underlying67 rfl SL.out (hK9 _ ?_)
      rw [put_list]
      simp only [List.set_cons_succ, List.set_cons_zero]
      repeat (go_big_quiet_step (fail))
      go_big_quiet_step (exact later_of (HC.out _ (HB.out.trans ((Later.fresh _).mono HSW.out))))
      repeat (go_big_quiet_step (fail))
      refine wpQuiet_nil ?_
      rintro _ ⟨z, rfl⟩
      have hz := z.fresh
      have G3 := hidd (HB.out.trans (hz.mono HSW.out))
      clear ne ca12 cb12 RG RU SL SU HC HSW hz HB
      generalize z.val = wz at *
      clear z
      go_wp2
      go_roundw
      case rel => exact ⟨k + 1, by omega, by go_num, G3.out⟩
      case measure => simp [intOf]; omega
    · obtain rfl : k = x.yn := by omega
      have hnl : ¬ ((x.yn : Int) < (x.yn : Int)) := by omega
      go_wp2
      clear ca12 cb12
      go_loopw [7, 8] (fun i _ wr => ∃ k : Nat, k ≤ x.mn ∧ i = .int .i64 (k : Int) ∧ Hid (Below (w.heap.size + 2) wb wr)) (fun i _ _ => x.mn - (intOf i).toNat)
      case atStart => exact ⟨0, Nat.zero_le _, by simp, HB.out⟩
      case round =>
        clear HB
        obtain ⟨k, hk, rfl, HB⟩ := hrel
        obtain ⟨ca17, cb17⟩ := HCM.out _ HB.out
        by_cases hlt : k < x.mn
        · have i0 : (0 : Int) ≤ (k : Int) := by omega
          have i1 : (k : Int) < (x.mn : Int) := by omega
          obtain ⟨xb, xf, ex, hxc⟩ := HX.out.mat (by omega)
          obtain ⟨yb, yf, ey, hyc⟩ := HY.out.mat (by have := EM.out; omega)
          rw [ex] at cb17
          rw [ey] at ca17
          obtain ⟨d0, d1, d2⟩ := hxc k hlt
          obtain ⟨e0, e1, e2⟩ := hyc k (by have := EM.out; omega)
          replace d0 := fresh_cell (HLW.out _ HB.out) d0
          replace d1 := fresh_cell (HLW.out _ HB.out) d1
          replace d2 := fresh_cell (HLW.out _ HB.out) d2
          replace e0 := fresh_cell (HLW.out _ HB.out) e0
          replace e1 := fresh_cell (HLW.out _ HB.out) e1
          replace e2 := fresh_cell (HLW.out _ HB.out) e2
          have HC : Hid (∀ z, Below (w.heap.size + 2) wb z → Calls Try.prog 41 #[.agg #[.int .i64 (y.md k).R, .int .i64 (y.md k).C, .slice (y.md k).O (y.md k).n (y.md k).c], .agg #[.int .i64 (x.md k).R, .int .i64 (x.md k).C, .slice (x.md k).O (x.md k).n (x.md k).c]] z fun e w' => e = .returned (.bool true) ∧ Below z.heap.size z w') := KM.out k hlt
          have HSW : Hid (w.heap.size + 2 ≤ wr.heap.size) := HS.out _ HB.out
          clear hxc hyc ex ey
          go_wp2
          replace ca17 := later_cell ca17; replace cb17 := later_cell cb17; replace d0 := later_cell d0; replace d1 := later_cell d1; replace d2 := later_cell d2; replace e0 := later_cell e0; replace e1 := later_cell e1; replace e2 := later_cell e2
          have ne := later_some wr
          refine wp_region_later (by kernel_rfl) (by kernel_rfl) ?_
          repeat (go_big_quiet_step (fail))
          go_big_quiet_step (exact later_of (HC.out _ (HB.out.trans ((Later.fresh _).mono HSW.out))))
          repeat (go_big_quiet_step (fail))
          refine wpQuiet_nil ?_
          rintro _ ⟨z, rfl⟩
          have hz := z.fresh
          have G3 := hidd (HB.out.trans (hz.mono HSW.out))
          clear ne ca17 cb17 d0 d1 d2 e0 e1 e2 HC HSW hz HB
          generalize z.val = wz at *
          clear z
          go_wp2
          go_roundw
          case rel => exact ⟨k + 1, by omega, by go_num, G3.out⟩
          case measure => simp [intOf]; omega
        · obtain rfl : k = x.mn := by omega
          have hnl2 : ¬ ((x.mn : Int) < (x.mn : Int)) := by omega
          obtain ⟨ca13, cb13⟩ := HCF.out _ HB.out
          go_wp2_with fail
          refine (KF.out _ HB.out).mono ?_
          rintro e w4 ⟨rfl, f4⟩
          have G4 := hidd f4
          clear f4 ca17 cb17 ca13 cb13 HB
          obtain ⟨ca14, ca15, ca16, cb14, cb15, cb16⟩ := HCQ.out _ G4.out
          go_wp2_with fail
          refine (KQ.out _ G4.out).mono ?_
          rintro e w5 ⟨rfl, f5⟩
          have G5 := hidd f5
          clear f5 ca14 ca15 ca16 cb14 cb15 cb16 G4
          go_wp2
          go_ret
          exact ⟨rfl, HLW.out _ G5.out⟩
end Go.Proofs.Ytilghknalbhacaa
namespace Go.Proofs.Ytilghknalbhacaa
open Go.RowKit
/-! What is alike has one file. -/
theorem mB_sm {l l' : LyD} (h : SmL l l') : ∀ r, r ≤ 7 → mB l' r = mB l r
  | 0, _ => by rw [mB_zero, mB_zero, h.1.1, h.1.2, h.2.1.1, h.2.1.2]
  | r + 1, hr => by
    obtain ⟨_, _, e1, e2⟩ := h.2.2.1 r (by omega)
    rw [mB_succ, mB_succ, mB_sm h r (by omega), e1, e2]
theorem lyB_sm {l l' : LyD} (h : SmL l l') : lyB l' = lyB l := by
  unfold lyB
  rw [mB_sm h 7 (Nat.le_refl _), h.2.2.2]
theorem h2L_sm {x y : WtD} (h : BS x y) : h2L y = h2L x := by
  obtain ⟨a1, a2, a3, a4, a5, a6, a7, a8⟩ := h.cfg
  unfold h2L h1L h0L
  rw [a1, a2, a3, a4, a5, a6, a7, a8, h.E.2.2.1, h.E.2.2.2, h.T.1, h.T.2.1, h.T.2.2]
theorem yL_sm {x y : WtD} (h : BS x y) (hy : ∀ j, j < x.yn → SmL (x.ly j) (y.ly j)) : ∀ k, k ≤ x.yn → yL y k = yL x k
  | 0, _ => h2L_sm h
  | k + 1, hk => by rw [yL_succ, yL_succ, yL_sm h hy k (by omega), lyB_sm (hy k (by omega))]
theorem e2L_sm {x y : WtD} (h : BS x y) (hy : ∀ j, j < x.yn → SmL (x.ly j) (y.ly j)) : e2L y = e2L x := by
  unfold e2L e1L
  rw [h.Y, yL_sm h hy x.yn (Nat.le_refl _), h.F.1, h.F.2, h.Q.2.2.1, h.Q.2.2.2]
theorem mL_sm {x y : WtD} (h : BS x y) (hy : ∀ j, j < x.yn → SmL (x.ly j) (y.ly j)) (hm : ∀ j, j < x.mn → SmM (x.md j) (y.md j)) : ∀ k, k ≤ x.mn → mL y k = mL x k
  | 0, _ => e2L_sm h hy
  | k + 1, hk => by
    obtain ⟨_, _, e1, e2⟩ := hm k (by omega)
    rw [mL_succ, mL_succ, mL_sm h hy hm k (by omega), e1, e2]
theorem fileL_sm {x y : WtD} (h : BS x y) (hy : ∀ j, j < x.yn → SmL (x.ly j) (y.ly j)) (hm : ∀ j, j < x.mn → SmM (x.md j) (y.md j)) : fileL y = fileL x := by
  unfold fileL
  rw [h.M, mL_sm h hy hm x.mn (Nat.le_refl _)]
end Go.Proofs.Ytilghknalbhacaa
