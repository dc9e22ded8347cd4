import Derived.Test.YtaalinlggjimcaaXY
import Derived.BigQuiet
namespace Go.Proofs.Ytaalinlggjimcaa
open Go.RowKit
/-! PrefixOldest: the walk. -/
theorem lng_no {n : Nat} (w : World) (h : n ≤ 2147483647) : Calls Try.prog 15 #[.int .i64 n] w fun e w' => e = .returned (.bool false) ∧ w' = w := by
  go_enter Try.func15, Try.ntmps15
  go_wp2
  go_ret
  exact ⟨by simp; omega, rfl⟩
theorem lng_yes {n : Nat} (w : World) (h : 2147483647 < n) (_h2 : n ≤ 9223372036854775807) : Calls Try.prog 15 #[.int .i64 n] w fun e w' => e = .returned (.bool true) ∧ w' = w := by
  go_enter Try.func15, Try.ntmps15
  go_wp2
  go_ret
  exact ⟨by simp; omega, rfl⟩
theorem new_200 {S : Nat} (w : World) (hS : 1 ≤ S ∧ S ≤ 16) : Calls Try.prog 16 #[.int .i64 1, .int .i64 1, .int .i64 200, .int .i64 (S : Int)] w fun e w' => ∃ g cb nb, e = .returned (.tuple #[.pointer (some ⟨g, 0, none⟩), .int .i64 0]) ∧ PoolAt w' g cb nb 1 1 200 S (fun _ => 0) (fun _ => 0) ∧ (w.heap.size ≤ g ∧ w.heap.size ≤ cb ∧ w.heap.size ≤ nb) ∧ Below w.heap.size w w' :=
  new_any (L := 1) (W := 1) (B := 200) (S := S) w (by omega) (by omega) (by omega) hS
theorem ow_new {w0 S : Nat} (n : Nat) {w : World} {g cb nb : Nat} (h : PoolAt w g cb nb 1 1 200 S (fun _ => 0) (fun _ => 0)) (h1 : w0 ≤ cb) (h2 : w0 ≤ nb) (hl : w0 ≤ w.heap.size) :
    Calls Try.prog 10 #[.pointer (some ⟨g, 0, none⟩)] w fun e w' => ∃ c A, e = .returned (.pointer (some ⟨c.C, 0, none⟩)) ∧ c.pg = g ∧ Below w.heap.size w w' ∧ Ow w0 (w'.alloc (.cells (madeCells #[.int .i64 0] n) 3)) c A [] 0 cb nb S (fun _ => 0) (fun _ => 0) w'.heap.size n (fun _ => 0) := by
  refine (pnew_any h).mono ?_
  rintro e w' ⟨c, A, rfl, hp, hS, hB, hC, hA, hf⟩
  have hlt : ∀ z, z < w.heap.size → ¬ A z := fun z hz e => by have := hA z e; omega
  have f2 := fresh_alloc w' (.cells (madeCells #[.int .i64 0] n) 3)
  have hs := hf.size
  have p1 := h.row.lt
  have p2 := h.cnts.lt
  have p3 := h.nums.lt
  refine ⟨c, A, rfl, hp, hf, hC.fresh f2, by rw [hp, hB]; exact (h.fresh hf).fresh f2, hS, hB, by rw [hp]; exact hlt _ p1, hlt _ p2, hlt _ p3, fun z hz => Nat.le_trans hl (hA z hz), h1, h2, by have := f2.size; omega, World.rowIs_made w' (.int .i64 0) n 3, fun e => by have := hC.low _ e; omega, by omega, by omega, by omega⟩
theorem Old.congr {L : List Nd} {S : Nat} {K K' : Nat → Prop} {U : Nat → Int} (h : Old L S K U) (k : ∀ i, K i ↔ K' i) : Old L S K' U :=
  ⟨h.path, fun x hx => (k _).1 (h.fwd x hx), fun i hi => h.bwd i ((k _).2 hi), h.use⟩
theorem old_nil (S : Nat) (U : Nat → Int) : Old [] S (fun j => j < 0) U := ⟨fun x hx => (by cases hx), fun x hx => (by cases hx), fun i hi => absurd hi (by omega), fun x hx => (by cases hx)⟩
theorem upd3 {cnt : Nat → Nat} {i : Nat} (h : ∀ j, cnt j = if j < i then 1 else 0) (j : Nat) : updN (updN (updN cnt i 1) i 2) i 1 j = if j < i + 1 then 1 else 0 := by
  by_cases e : j = i
  · subst e; rw [updN_at, if_pos (by omega)]
  · rw [updN_ne _ _ e, updN_ne _ _ e, updN_ne _ _ e, h]
    by_cases q : j < i
    · rw [if_pos q, if_pos (by omega)]
    · rw [if_neg q, if_neg (by omega)]
structure P1 (w0 : World) (wr : World) (c : Ca) (A : Nat → Prop) (L : List Nd) (cb nb S ub n i : Nat) (cnt : Nat → Nat) (num : Nat → Int) (U : Nat → Int) : Prop where
  ow : Ow w0.heap.size wr c A L i cb nb S cnt num ub n U
  old : Old L S (fun j => j < i) U
  pos : ∀ j, j < i → 0 ≤ U j
  cnt : ∀ j, cnt j = if j < i then 1 else 0
  len : L.length = i
  low : Below w0.heap.size w0 wr
structure P2 (w0 : World) (wr : World) (c : Ca) (A : Nat → Prop) (L : List Nd) (N cb nb S ub n : Nat) (cnt : Nat → Nat) (num : Nat → Int) (U : Nat → Int) : Prop where
  ow : Ow w0.heap.size wr c A L N cb nb S cnt num ub n U
  old : Old L S (fun j => j < n) U
  pos : ∀ j, j < n → 0 ≤ U j
  len : L.length = n
  low : Below w0.heap.size w0 wr
structure P3 (w0 : World) (wr : World) (c : Ca) (A : Nat → Prop) (L : List Nd) (N cb nb S ub n lf : Nat) (cnt : Nat → Nat) (num : Nat → Int) (U : Nat → Int) : Prop where
  ow : Ow w0.heap.size wr c A L N cb nb S cnt num ub n U
  old : Old L S (fun j => j < n ∧ 0 ≤ U j) U
  cnt : ∀ j, j < n → 0 ≤ U j → cnt j = 1
  len : L.length = lf
  low : Below w0.heap.size w0 wr
set_option maxRecDepth 100000 in
set_option maxHeartbeats 8000000 in
theorem oldest_law {w : World} {bo : Option Addr} {m cap : Nat} {f : Nat → Int} (a0 a1 : Int) (hr : RdA w bo 1 m cap (fun i => .int .i64 (f i))) :
    Calls Try.prog 4 #[.int .i64 a0, .int .i64 a1, .slice bo m cap] w fun e w' => e = .returned (.bool true) ∧ Below w.heap.size w w' := by
  have hcap : cap ≤ 9223372036854775807 := by have := hr.top; unfold maxLen at this; omega
  have hnc := hr.le
  have H1 := hidd (works_any w)
  by_cases hs1 : a0 < 1
  · go_enter Try.func4, Try.ntmps4
    go_wp2_with (go_at_call 9; with_reducible refine H1.out.mono ?_; rintro e w1 ⟨rfl, f1⟩)
    go_ret
    exact ⟨rfl, f1⟩
  by_cases hs2 : 16 < a0
  · go_enter Try.func4, Try.ntmps4
    go_wp2_with (go_at_call 9; with_reducible refine H1.out.mono ?_; rintro e w1 ⟨rfl, f1⟩)
    go_ret
    exact ⟨rfl, f1⟩
  by_cases hn1 : a1 < 1
  · go_enter Try.func4, Try.ntmps4
    go_wp2_with (go_at_call 9; with_reducible refine H1.out.mono ?_; rintro e w1 ⟨rfl, f1⟩)
    go_ret
    exact ⟨rfl, f1⟩
  by_cases hn2 : 200 < a1
  · go_enter Try.func4, Try.ntmps4
    go_wp2_with (go_at_call 9; with_reducible refine H1.out.mono ?_; rintro e w1 ⟨rfl, f1⟩)
    go_ret
    exact ⟨rfl, f1⟩
  by_cases hlong : 2147483647 < m
  · go_enter Try.func4, Try.ntmps4
    go_wp2_with (first
      | (go_at_call 9; with_reducible refine H1.out.mono ?_; rintro e w1 ⟨rfl, f1⟩; have HL := hidd (lng_yes w1 hlong (by omega)))
      | (go_at_call 15; with_reducible refine HL.out.mono ?_; rintro e w9 ⟨rfl, h9⟩; rw [h9]; clear h9))
    go_ret
    exact ⟨rfl, f1⟩
  obtain ⟨S, rfl⟩ : ∃ S : Nat, a0 = (S : Int) := ⟨a0.toNat, by omega⟩
  obtain ⟨n, rfl⟩ : ∃ n : Nat, a1 = (n : Int) := ⟨a1.toNat, by omega⟩
  have hS1 : 1 ≤ S := by omega
  have hS2 : S ≤ 16 := by omega
  have hN1 : 1 ≤ n := by omega
  have hN2 : n ≤ 200 := by omega
  obtain ⟨iI, hiI, zI0, zI1, zI2⟩ := info_parts infoI
  have hmk : ∀ w, (Instr.makeSlice 22 (.int .i64 (n : Int)) (.int .i64 (n : Int))).run Try.prog w = .ok (.slice (some ⟨w.heap.size, 0, none⟩) n n) (w.alloc (.cells (madeCells #[.int .i64 0] n) 3)) := run_make_row 22 3 iI (.int .i64 0) Try.underlying22 hiI zI0 zI1 rfl .i64 .i64 n (by rw [zI2]; omega) (by omega)
  clear hiI zI0 zI1 zI2
  have HRD := hidd hr
  clear hr
  go_enter Try.func4, Try.ntmps4
  go_wp2_with (first
    | (go_at_call 9; with_reducible refine H1.out.mono ?_; rintro e w1 ⟨rfl, f1⟩; have HL := hidd (lng_no (n := m) w1 (by omega)); have H2 := hidd (new_200 (S := S) w1 ⟨hS1, hS2⟩))
    | (go_at_call 15; with_reducible refine HL.out.mono ?_; rintro e w9 ⟨rfl, h9⟩; rw [h9]; clear h9)
    | (go_at_call 16; with_reducible refine H2.out.mono ?_; rintro e w2 ⟨g, cb, nb, rfl, PA, ⟨hg1, hg2, hg3⟩, f2⟩; have H3 := hidd (ow_new (w0 := w.heap.size) n PA (by have := f1.size; omega) (by have := f1.size; omega) (by have := f1.size; have := f2.size; omega)); clear PA)
    | (go_at_call 10; with_reducible refine H3.out.mono ?_; rintro e w3 ⟨c, A0, rfl, hpg, f3, W3⟩; subst hpg; have HW3 := hidd W3; clear W3))
  have F3 : Hid (Below w.heap.size w (w3.alloc (.cells (madeCells #[.int .i64 0] n) 3))) := by
    have s1 := f1.size
    have s2 := f2.size
    have s3 := f3.size
    exact ((f1.trans (f2.mono s1)).trans (f3.mono (by omega))).alloc (by omega) _
  obtain ⟨ub, hub⟩ : ∃ ub, ub = w3.heap.size := ⟨_, rfl⟩
  rw [← hub] at HW3 ⊢
  clear H1 H2 HL H3 hmk hg1 hg2 hg3 f1 f2 f3 hs1 hs2 hn1 hn2
  go_loopw [12, 13, 14, 15] (fun vi _ _ _ wr => ∃ (i : Nat) (A : Nat → Prop) (L : List Nd) (cnt : Nat → Nat) (num U : Nat → Int), i ≤ n ∧ vi = .int .i64 (i : Int) ∧ Hid (P1 w wr c A L cb nb S ub n i cnt num U)) (fun vi _ _ _ _ => n - (intOf vi).toNat)
  case atStart => exact ⟨0, A0, [], _, _, _, by omega, rfl, HW3.out, old_nil _ _, fun j hj => absurd hj (by omega), fun j => by rw [if_neg (by omega)], rfl, F3.out⟩
  case round =>
    clear HW3 F3 hub
    obtain ⟨i, A, L, cnt, num, U, hi, rfl, H⟩ := hrel
    by_cases hlt : i < n
    · have HT := hidd (ow_take H.out.ow (i := i) (by omega) (by rw [H.out.cnt, if_neg (by omega)]) (fun j hj => by rw [H.out.cnt, if_pos hj]; decide))
      have i0 : (0 : Int) ≤ (i : Int) := by omega
      have i1 : (i : Int) < (n : Int) := by omega
      clear hi
      go_wp2_with (first
        | (go_at_call 17; with_reducible refine HT.out.mono ?_; rintro e w4 ⟨rfl, ⟨num4, W4⟩, f4⟩; have H5 := hidd (single_any w4 i S ⟨hS1, hS2⟩))
        | (go_at_call 18; with_reducible refine H5.out.mono ?_; rintro e w5 ⟨rfl, r5, f5⟩; have H6 := hidd (ow_keep (W4.fresh f5) r5 H.out.old (by omega) (by omega) (updN_at _ _ _) (by omega)); have f5' := f5.mono W4.lw; clear W4 r5 f5)
        | (go_at_call 12; with_reducible refine H6.out.mono ?_; rintro e w6 ⟨rfl, ⟨A6, L6, W6, O6, l6⟩, f6⟩; have H7 := hidd (ow_drop W6 (i := i) (by omega) (updN_at _ _ _)); have HO := hidd (And.intro O6 l6); clear W6 O6 l6)
        | (go_at_call 19; with_reducible refine H7.out.mono ?_; rintro e w7 ⟨rfl, W7, f7⟩; have d7 := W7.row.cell (i := i) hlt; have fr7 := W7.row.frozen; have HW7 := hidd W7; clear W7))
      go_roundw
      case rel =>
        have hset := HW7.out.set i (i : Int)
        refine ⟨i + 1, A6, L6, _, num4, _, by omega, by go_num, hset.1, HO.out.1.congr (fun j => by omega), fun j hj => ?_, upd3 H.out.cnt, by rw [HO.out.2, H.out.len], ((((H.out.low.trans f4).trans f5').trans f6).trans f7).trans hset.2⟩
        unfold updI
        split
        · omega
        · exact H.out.pos j (by omega)
      case measure => simp [intOf]; omega
    · obtain rfl : n = i := by omega
      clear hi hlt
      have H2 : Hid (P2 w wr c A L n cb nb S ub n cnt num U ∧ ∀ j, j < n → cnt j = 1) := ⟨⟨H.out.ow, H.out.old, H.out.pos, H.out.len, H.out.low⟩, fun j hj => by rw [H.out.cnt, if_pos hj]⟩
      clear H
      have hz : ¬ (n : Int) = 0 := by omega
      go_wp2
      go_loopw [16, 17, 18] (fun vn vj _ wr => ∃ (N j : Nat) (L : List Nd) (U : Nat → Int), j ≤ m ∧ N ≤ n + j ∧ vn = .int .i64 (N : Int) ∧ vj = .int .i64 (j : Int) ∧ Hid (P2 w wr c A L N cb nb S ub n cnt num U)) (fun _ vj _ _ => m - (intOf vj).toNat)
      case atStart => exact ⟨n, 0, L, U, by omega, by omega, rfl, rfl, H2.out.1⟩
      case round =>
        have HC := hidd H2.out.2
        clear H2
        obtain ⟨N, j, L, U, hj, hN, rfl, rfl, H⟩ := hrel
        by_cases hlt : j < m
        · obtain ⟨b, off, rfl, hcs⟩ := HRD.out.one (by omega)
          have d := fresh_cell H.out.low (hcs j hlt)
          have j0 : (0 : Int) ≤ (j : Int) := by omega
          have j1 : (j : Int) < (m : Int) := by omega
          have t1 := Int.tmod_lt_of_pos (f j) (show (0 : Int) < n by omega)
          have t2 := Int.lt_tmod_of_pos (f j) (show (0 : Int) < n by omega)
          clear hcs hj
          by_cases hneg : (f j).tmod (n : Int) < 0
          · go_wp2
            go_roundw
            case rel => exact ⟨N, j + 1, L, U, by omega, by omega, rfl, by go_num, H.out⟩
            case measure => simp [intOf]; omega
          · obtain ⟨k, hk⟩ : ∃ k : Nat, (f j).tmod (n : Int) = (k : Int) := ⟨((f j).tmod (n : Int)).toNat, by omega⟩
            rw [hk] at t1 t2 hneg
            have hkn : k < n := by omega
            have k0 : (0 : Int) ≤ (k : Int) := by omega
            have HS := hidd (single_any wr k S ⟨hS1, hS2⟩)
            clear hneg
            go_wp2_with (first
              | (go_at_call 18; with_reducible refine HS.out.mono ?_; rintro e w5 ⟨rfl, r5, f5⟩; have H6 := hidd (ow_find (H.out.ow.fresh f5) r5 H.out.old (by omega) (by omega)); have f5' := f5.mono H.out.ow.lw; clear r5 f5)
              | (go_at_call 11; with_reducible refine H6.out.mono ?_; rintro e w6 ⟨kk, g6, rfl, _, ⟨L6, W6, O6, _, l6⟩, f6⟩; have d6 := W6.row.cell (i := k) hkn; have fr6 := W6.row.frozen; have HW6 := hidd W6; have HO := hidd (And.intro (O6 hkn) l6); clear W6 O6 l6))
            go_roundw
            case rel =>
              have hset := HW6.out.set k (N : Int)
              refine ⟨N + 1, j + 1, L6, _, by omega, by omega, by go_num, by go_num, hset.1, HO.out.1, fun i hi => ?_, by rw [HO.out.2, H.out.len], ((H.out.low.trans f5').trans f6).trans hset.2⟩
              unfold updI
              split
              · omega
              · exact H.out.pos i hi
            case measure => simp [intOf]; omega
        · obtain rfl : m = j := by omega
          clear hj hlt
          have H3 : Hid (P3 w wr c A L N cb nb S ub n n cnt num U) := ⟨H.out.ow, H.out.old.congr (fun i => ⟨fun h => ⟨h, H.out.pos i h⟩, fun h => h.1⟩), fun i h1 _ => HC.out i h1, H.out.len, H.out.low⟩
          clear H HC HRD
          go_wp2
          go_loopw [19, 20, 21] (fun vl _ _ wr => ∃ (N lf : Nat) (L : List Nd) (cnt : Nat → Nat) (U : Nat → Int), lf ≤ n ∧ N + lf ≤ n + n + m ∧ vl = .int .i64 (lf : Int) ∧ Hid (P3 w wr c A L N cb nb S ub n lf cnt num U)) (fun vl _ _ _ => (intOf vl).toNat)
          case atStart => exact ⟨N, n, L, cnt, U, by omega, by omega, rfl, H3.out⟩
          case round =>
            clear H3
            obtain ⟨N, lf, L, cnt, U, hlf, hNl, rfl, H⟩ := hrel
            cases lf with
            | zero =>
              go_wp2
              go_ret
              exact ⟨rfl, H.out.low⟩
            | succ lf =>
              have elf : ((lf + 1 : Nat) : Int) = (lf : Int) + 1 := by push_cast; rfl
              have hl0 : (0 : Int) < (lf : Int) + 1 := by omega
              rw [elf]
              go_wp2
              go_loopw [20, 21] (fun vo vi wi => ∃ (old i : Nat), i ≤ n ∧ old < n ∧ old ≤ i ∧ vo = .int .i64 (old : Int) ∧ vi = .int .i64 (i : Int) ∧ Hid (Scan U old i) ∧ Below wr.heap.size wr wi) (fun _ vi _ => n - (intOf vi).toNat)
              case atStart => exact ⟨0, 0, by omega, by omega, by omega, rfl, rfl, fun j hj => absurd hj (by omega), Below.refl _ _⟩
              case round =>
                obtain ⟨old, i, hi, hon, hoi, rfl, rfl, HSC, fi⟩ := hrel
                by_cases hlt : i < n
                · have dI := fresh_cell fi (H.out.ow.row.cell (i := i) hlt)
                  have dO := fresh_cell fi (H.out.ow.row.cell (i := old) hon)
                  have i0 : (0 : Int) ≤ (i : Int) := by omega
                  have i1 : (i : Int) < (n : Int) := by omega
                  have o0 : (0 : Int) ≤ (old : Int) := by omega
                  have o1 : (old : Int) < (n : Int) := by omega
                  clear hi
                  by_cases hu : 0 ≤ U i
                  · have du : decide (0 ≤ U i) = true := decide_eq_true hu
                    have du' : decide (U i ≥ 0) = true := decide_eq_true hu
                    by_cases ho : U old < 0
                    · have do_ : decide (U old < 0) = true := decide_eq_true ho
                      go_wp2
                      go_quiet (fail)
                      go_wp2
                      go_roundw
                      case rel => exact ⟨i, i + 1, by omega, by omega, by omega, rfl, by go_num, scan_take HSC.out hu (.inl ho), below_drewN fi _⟩
                      case measure => simp [intOf]; omega
                    · have do_ : decide (U old < 0) = false := decide_eq_false ho
                      by_cases hlu : U i < U old
                      · have dl : decide (U i < U old) = true := decide_eq_true hlu
                        go_wp2
                        go_quiet (fail)
                        go_wp2
                        go_roundw
                        case rel => exact ⟨i, i + 1, by omega, by omega, by omega, rfl, by go_num, scan_take HSC.out hu (.inr hlu), below_drewN fi _⟩
                        case measure => simp [intOf]; omega
                      · have dl : decide (U i < U old) = false := decide_eq_false hlu
                        go_wp2
                        go_quiet (fail)
                        go_wp2
                        go_roundw
                        case rel => exact ⟨old, i + 1, by omega, by omega, by omega, rfl, by go_num, scan_keep HSC.out hoi (fun _ => ⟨by omega, by omega⟩), below_drewN fi _⟩
                        case measure => simp [intOf]; omega
                  · have du : decide (0 ≤ U i) = false := decide_eq_false hu
                    have du' : decide (U i ≥ 0) = false := decide_eq_false hu
                    go_wp2
                    go_quiet (fail)
                    go_wp2
                    go_roundw
                    case rel => exact ⟨old, i + 1, by omega, by omega, by omega, rfl, by go_num, scan_keep HSC.out hoi (fun h => absurd h (by omega)), below_drewN fi _⟩
                    case measure => simp [intOf]; omega
                · obtain rfl : n = i := by omega
                  clear hi hlt
                  have W4 := H.out.ow.fresh fi
                  have fl4 := H.out.low.trans (fi.mono H.out.ow.lw)
                  have HSH := hidd (ow_shrink W4 H.out.old (fun _ => Iff.rfl) hN2 (by rw [H.out.len]; omega) hon HSC.out (fun i h => H.out.cnt i h.1 h.2))
                  have o0 : (0 : Int) ≤ (old : Int) := by omega
                  have o1 : (old : Int) < (n : Int) := by omega
                  clear W4
                  go_wp2_with (first
                    | (go_at_call 13; with_reducible refine HSH.out.mono ?_; rintro e w5 ⟨rfl, ⟨L5, W5, O5, l5⟩, f5⟩; have HLN := hidd (len_any W5.cache); have hl5 : L5.length = lf := (by have := H.out.len; omega); rw [hl5] at HLN; have HSI := hidd (single_any w5 old S ⟨hS1, hS2⟩))
                    | (go_at_call 14; with_reducible refine HLN.out.mono ?_; rintro e w9 ⟨rfl, h9⟩; rw [h9]; clear h9)
                    | (go_at_call 18; with_reducible refine HSI.out.mono ?_; rintro e w6 ⟨rfl, r6, f6⟩; have HFI := hidd (ow_find (W5.fresh f6) r6 O5 (by omega) (by omega)); have f6' := f6.mono W5.lw; clear r6 f6)
                    | (go_at_call 11; with_reducible refine HFI.out.mono ?_; rintro e w7 ⟨kk, g7, rfl, hkk, ⟨L7, W7, _, e7, _⟩, f7⟩; obtain rfl : kk = 0 := hkk (fun h => absurd rfl h.2); obtain rfl : L7 = L5 := e7 (fun h => absurd rfl h.2); have d7 := W7.row.cell (i := old) hon; have fr7 := W7.row.frozen; have HW7 := hidd W7; have HO := hidd (And.intro O5 hl5); clear W7 O5 W5))
                  go_roundw
                  case rel =>
                    have hset := HW7.out.set old (-1)
                    have hne : ∀ i, 0 ≤ updI U old (-1) i → i ≠ old ∧ 0 ≤ U i := fun i h => by
                      unfold updI at h
                      by_cases e : i = old
                      · rw [if_pos e] at h; omega
                      · rw [if_neg e] at h; exact ⟨e, h⟩
                    refine ⟨N + 1, lf, _, _, updI U old (-1), by omega, by omega, by go_num, hset.1, HO.out.1.congr (fun i => ⟨fun h => ⟨h.1.1, ?_⟩, fun h => ⟨⟨h.1, (hne i h.2).2⟩, (hne i h.2).1⟩⟩), fun i h1 h2 => ?_, HO.out.2, (((fl4.trans f5).trans f6').trans f7).trans hset.2⟩
                    · unfold updI
                      rw [if_neg h.2]
                      exact h.1.2
                    · obtain ⟨q1, q2⟩ := hne i h2
                      rw [updN_ne _ _ q1]
                      exact H.out.cnt i h1 q2
                  case measure => simp [intOf]
end Go.Proofs.Ytaalinlggjimcaa
