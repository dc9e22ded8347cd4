import Derived.Test.YtmcefgpejocjfaaDoorTrn
import Derived.Test.YtmcefgpejocjfaaDoorHeld
namespace Go.Proofs.YtmcefgpejocjfaaDoor
open Go.RowKit
attribute [local go_sem ↓] Go.wp_at_zero Go.wp_at_succ
/-! Turns: for each position each unit turned so often. -/
theorem fresh_frozen {a b : World} (h : Below a.heap.size a b) {k o : Nat} {v : Value} (e : a.cell? ⟨k, o, none⟩ = some v) (f : a.frozen? ⟨k, o, none⟩ = false) : b.frozen? ⟨k, o, none⟩ = false := by
  rw [h.frozen (p := ⟨k, o, none⟩) (lt_of_cell e), f]
theorem infoT : (Tryd.prog.info? 79).map (fun i => (i.zero, i.size, i.bytes)) = some (some (.agg #[.int .i64 0, .int .i64 0]), 2, 16) := by kernel_rfl
theorem infoST : (Tryd.prog.info? 31).map (fun i => (i.zero, i.size, i.bytes)) = some (some (.slice none 0 0), 1, 24) := by kernel_rfl
theorem run_make_row2 {P : Program} (t e : TypeId) (z1 z2 : Value) (bytes : Nat) (ht : P.underlying t = some (.slice e)) (hinfo : (P.info? e).map (fun i => (i.zero, i.size, i.bytes)) = some (some (.agg #[z1, z2]), 2, bytes)) (hz : (Value.agg #[z1, z2]).cells = #[z1, z2])
    (kl kc : IntKind) (n : Nat) (hbytes : bytes * n ≤ 281474976710656) (h63 : n ≤ 9223372036854775807) (w : World) :
    (Instr.makeSlice t (.int kl (n : Int)) (.int kc (n : Int))).run P w = .ok (.slice (some ⟨w.heap.size, 0, none⟩) n n) (w.alloc (.cells (madeCells #[z1, z2] (n * 2)) e)) := by
  obtain ⟨i, hi, hz0, hz1, hz2⟩ := info_parts hinfo
  have hb' : (i.bytes : Int) * (n : Int) ≤ 281474976710656 := by
    have h : ((i.bytes * n : Nat) : Int) ≤ 281474976710656 := by rw [hz2]; omega
    rwa [Int.natCast_mul] at h
  have hr := run_make (P := P) w t e i _ ht hi hz0 kl kc n n (by omega) (Int.le_refl _) hb' (by omega)
  rw [hz1, hz] at hr
  simpa using hr
theorem rowIs_made2 (w : World) (z1 z2 : Value) (n : Nat) (t : TypeId) : ∃ F, (w.alloc (.cells (madeCells #[z1, z2] (n * 2)) t)).rowIs w.heap.size t (n * 2) F := by
  have h := World.rowIs_alloc w (madeCells #[z1, z2] (n * 2)) t (fun i => (madeCells #[z1, z2] (n * 2))[i]?.getD (.bool false)) (fun i hi => by
    show (madeCells #[z1, z2] (n * 2))[i]? = some ((madeCells #[z1, z2] (n * 2))[i]?.getD _)
    rw [Array.getElem?_eq_getElem hi]; rfl)
  rw [size_madeCells] at h
  exact ⟨_, h⟩
theorem set2_other {w : World} {b o g i j : Nat} {x y v : Value} (hb : ¬ b = g) (h : w.cell? ⟨b, o, none⟩ = some v) : ((w.setCell ⟨g, i, none⟩ x).setCell ⟨g, j, none⟩ y).cell? ⟨b, o, none⟩ = some v := by
  rw [World.cell?_of_block (w := w), h]
  rw [Below.heap_setCell _ _ _ _ hb, Below.heap_setCell _ _ _ _ hb]
/-- the unit turned p times -/
def tt (c s : Int) : Nat → Int × Int
  | 0 => (16384, 0)
  | p + 1 => (Fix.cl (rc c s (tt c s p).1 (tt c s p).2) 16384, Fix.cl (rs c s (tt c s p).1 (tt c s p).2) 16384)
def tC (C S : Nat → Int) (p : Nat) : Nat → Int := fun i => (tt (C i) (S i) p).1
def tS (C S : Nat → Int) (p : Nat) : Nat → Int := fun i => (tt (C i) (S i) p).2
/-- two cells more -/
theorem two_next {F : Nat → Value} {C S : Nat → Int} {k : Nat} (h : ∀ m, m < k * 2 → F m = tcs C S m) :
    Hid (∀ m, m < (k + 1) * 2 → (if m = k * 2 + 1 then .int .i64 (S k) else if m = k * 2 then .int .i64 (C k) else F m) = tcs C S m) := by
  intro m hm
  by_cases e1 : m = k * 2 + 1
  · rw [if_pos e1, e1, tcs1]
  · by_cases e2 : m = k * 2
    · rw [if_neg e1, if_pos e2, e2, tcs0]
    · rw [if_neg e1, if_neg e2, h m (by omega)]
theorem two_next' {F : Nat → Value} {C S : Nat → Int} {k : Nat} {c s : Int} (h : ∀ m, m < k * 2 → F m = tcs C S m) (hc : C k = c) (hs : S k = s) :
    Hid (∀ m, m < (k + 1) * 2 → (if m = k * 2 + 1 then .int .i64 s else if m = k * 2 then .int .i64 c else F m) = tcs C S m) := by
  rw [← hc, ← hs]; exact two_next h
set_option maxHeartbeats 4000000 in
theorem turns_ok {w : World} {ao : Option Addr} {n ca N : Nat} {C S : Nat → Int} (ha : RdA w ao 2 n ca (tcs C S)) (hC : ∀ i, i < n → -16384 ≤ C i ∧ C i ≤ 16384) (hS : ∀ i, i < n → -16384 ≤ S i ∧ S i ≤ 16384) (hN : N ≤ 64) (hn : 16 * n ≤ 281474976710656) :
    Calls Tryd.prog 27 #[.slice ao n ca, .int .i64 (N : Int)] w fun e w' => ∃ (g : Nat) (h : Nat → Nat) (F : Nat → Value), e = .returned (.tuple #[.slice (some ⟨g, 0, none⟩) N N, .int .i64 0]) ∧ w.heap.size ≤ g ∧ w'.rowIs g 31 N F ∧
      (∀ p, p < N → F p = .slice (some ⟨h p, 0, none⟩) n n ∧ g < h p ∧ w'.rowIs (h p) 79 (n * 2) (tcs (tC C S p) (tS C S p))) ∧ (∀ p q, p < q → q < N → h p < h q) ∧ Below w.heap.size w w' := by
  have hmk := run_make_row' (P := Tryd.prog) 37 31 (.slice none 0 0) 24 Tryd.underlying37 infoST rfl .i64 .i64 N (by omega) (by omega)
  have hmk2 := run_make_row2 (P := Tryd.prog) 31 79 (.int .i64 0) (.int .i64 0) 16 Tryd.underlying31 infoT rfl .i64 .i64 n hn (by omega)
  go_enter Tryd.func27, Tryd.ntmps27
  go_wp2
  go_loopw [20] (fun i wr => ∃ k : Nat, k ≤ n ∧ i = .int .i64 k ∧ Below w.heap.size w wr) (fun i _ => n - (intOf i).toNat)
  case atStart => exact ⟨0, by omega, rfl, Below.refl _ _⟩
  case round =>
    obtain ⟨k, hk, rfl, hf⟩ := hrel
    by_cases hlt : k < n
    · obtain ⟨b1, o1, rfl, h1⟩ := (ha.fresh hf).two (by omega)
      obtain ⟨c1, c2⟩ := h1 k hlt
      have d1 := hC k hlt
      have d2 := hS k hlt
      clear h1 hmk hmk2
      go_wp2_with fail
      refine (beyond_ok _ _ d1.1 d1.2).mono ?_
      rintro e w1 ⟨rfl, hw1⟩
      rw [hw1]
      clear hw1
      go_wp2_with fail
      refine (beyond_ok _ _ d2.1 d2.2).mono ?_
      rintro e w2 ⟨rfl, hw2⟩
      rw [hw2]
      clear hw2
      go_wp2
      go_roundw
      case rel => exact ⟨k + 1, hlt, by go_num, fresh_trans hf (fresh_alloc _ _)⟩
      case measure => simp [intOf]; omega
    · go_wp2
      have hsz := hf.size
      have hA := hidd hmk2
      clear hmk hmk2
      generalize hg : wr.heap.size = g
      have HG := hidd hg
      clear hg
      go_loopw [37] (fun i wb => ∃ (k : Nat) (h : Nat → Nat) (F : Nat → Value), k ≤ N ∧ i = .int .i64 k ∧ wb.rowIs g 31 N F ∧
          Hid (∀ p, p < k → F p = .slice (some ⟨h p, 0, none⟩) n n ∧ g < h p ∧ wb.rowIs (h p) 79 (n * 2) (tcs (tC C S p) (tS C S p))) ∧ Hid (∀ p q, p < q → q < k → h p < h q) ∧ Below g wr wb) (fun i _ => N - (intOf i).toNat)
      case atStart =>
        have hg := HG.out
        subst hg
        exact ⟨0, fun _ => 0, _, by omega, rfl, World.rowIs_made wr (.slice none 0 0) N 31, fun j hj => absurd hj (by omega), fun p q _ hj => absurd hj (by omega), fresh_alloc _ _⟩
      case round =>
        obtain ⟨p, h, F, hp, rfl, hrow, HF, HI, hf2⟩ := hrel
        by_cases hltp : p < N
        · have hmk2 := hA.out
          have fa := hrow.frozen
          have ca := hrow.cell (i := p) hltp
          have hgl := hrow.lt
          go_wp2
          have hrB := (hrow.set p (.slice (some ⟨wr.heap.size, 0, none⟩) n n)).alloc (.cells (madeCells #[.int .i64 0, .int .i64 0] (n * 2)) 79)
          obtain ⟨F2, hr2⟩ := rowIs_made2 (wr.setCell ⟨g, p, none⟩ (.slice (some ⟨wr.heap.size, 0, none⟩) n n)) (.int .i64 0) (.int .i64 0) n 79
          have hold : Hid (∀ q, q < p → (h q < wr.heap.size ∧ (World.alloc (wr.setCell ⟨g, p, none⟩ (.slice (some ⟨wr.heap.size, 0, none⟩) n n)) (.cells (madeCells #[.int .i64 0, .int .i64 0] (n * 2)) 79)).rowIs (h q) 79 (n * 2) (tcs (tC C S q) (tS C S q)))) :=
            fun q hq => ⟨(HF.out q hq).2.2.lt, ((HF.out q hq).2.2.setOther (a := ⟨g, p, none⟩) (by have := (HF.out q hq).2.1; simp; omega) _).alloc _⟩
          have hfB := (hf2.setCell (p := ⟨g, p, none⟩) (Nat.le_refl _) (.slice (some ⟨wr.heap.size, 0, none⟩) n n)).alloc (by simp; omega) (.cells (madeCells #[.int .i64 0, .int .i64 0] (n * 2)) 79)
          have hszB : wr.heap.size < (World.alloc (wr.setCell ⟨g, p, none⟩ (.slice (some ⟨wr.heap.size, 0, none⟩) n n)) (.cells (madeCells #[.int .i64 0, .int .i64 0] (n * 2)) 79)).heap.size := by simp
          simp only [World.size_setCell] at hr2
          generalize World.alloc (wr.setCell ⟨g, p, none⟩ (.slice (some ⟨wr.heap.size, 0, none⟩) n n)) (.cells (madeCells #[.int .i64 0, .int .i64 0] (n * 2)) 79) = wb at *
          have HFF := hidd HF.out
          have hlt2 : ∀ q, q < p → h q < wr.heap.size := fun q hq => (hold.out q hq).1
          have HH := hidd hlt2
          clear fa ca hmk2 hlt2
          have hwk : w.heap.size ≤ wr.heap.size := Nat.le_trans (by rw [← HG.out]; exact hsz) (Nat.le_of_lt hgl)
          have hW : Below w.heap.size w wb := hf.trans (hfB.mono (by rw [← HG.out]; exact hsz))
          generalize wr.heap.size = gk at *
          go_loopw [48] (fun j wc => ∃ (q : Nat) (F2 : Nat → Value), q ≤ n ∧ j = .int .i64 q ∧ wc.rowIs gk 79 (n * 2) F2 ∧ Hid (∀ m, m < q * 2 → F2 m = tcs (tC C S p) (tS C S p) m) ∧ Below gk wb wc) (fun j _ => n - (intOf j).toNat)
          case atStart => exact ⟨0, F2, by omega, rfl, hr2, fun m hm => absurd hm (by omega), Below.refl _ _⟩
          case round =>
            obtain ⟨q, F3, hq, rfl, hr3, HF3, hf3⟩ := hrel
            have hsz3 := hr3.lt
            by_cases hltq : q < n
            · obtain ⟨b1, o1, rfl, h1⟩ := (ha.fresh (hW.trans (hf3.mono hwk))).two (by omega)
              obtain ⟨c1, c2⟩ := h1 q hltq
              have hrC := hrB.of_block (hf3.block g hgl)
              have g1 := fresh_alloc wr (.cells #[.int .i64 (C q), .int .i64 (S q)] 79)
              have k1 := fresh_cell g1 (hrC.cell (i := p) hltp)
              simp only [if_true] at k1
              have r4 := hr3.alloc (.cells #[.int .i64 (C q), .int .i64 (S q)] 79)
              have f4 := r4.frozen
              have e0 := r4.cell (i := q * 2) (by omega)
              by_cases p0 : p = 0
              · have hp0 : ((p : Int) == 0) = true := by simp [p0]
                have E1 := hidd (show tC C S p q = 16384 by rw [p0]; rfl)
                have E2 := hidd (show tS C S p q = 0 by rw [p0]; rfl)
                clear p0
                have e1' := hr3.cell (i := q * 2) (by omega)
                have e2' := hr3.cell (i := q * 2 + 1) (by omega)
                have f1' := hr3.frozen
                clear e0 f4 g1
                go_wp2
                go_roundw
                case rel => exact ⟨q + 1, _, hltq, by go_num, ((hr3.set (q * 2) (.int .i64 16384)).set (q * 2 + 1) (.int .i64 0)).alloc _, two_next' HF3.out E1.out E2.out, ((hf3.setCell (Nat.le_refl _) _).setCell (Nat.le_refl _) _).alloc (by simp; omega) _⟩
                case measure => simp [intOf]; omega
              · have hp0 : ((p : Int) == 0) = false := by simp; omega
                obtain ⟨p', hp'⟩ : ∃ p', p = p' + 1 := ⟨p - 1, by omega⟩
                obtain ⟨v1, v2, v3⟩ := HF.out p' (by omega)
                have ho := (hold.out p' (by omega)).2
                have hlp := HH.out p' (by omega)
                have hoC := ho.of_block (hf3.block _ hlp)
                have k2 := fresh_cell g1 (hrC.cell (i := p') (by omega))
                rw [if_neg (by omega), v1] at k2
                have k3 := fresh_cell g1 (hoC.cell (i := q * 2) (by omega))
                have k4 := fresh_cell g1 (hoC.cell (i := q * 2 + 1) (by omega))
                rw [tcs0] at k3
                rw [tcs1] at k4
                have k5 : (wr.alloc (.cells #[.int .i64 (C q), .int .i64 (S q)] 79)).cell? ⟨wr.heap.size, 0, none⟩ = some (.int .i64 (C q)) := by simp
                have k6 : (wr.alloc (.cells #[.int .i64 (C q), .int .i64 (S q)] 79)).cell? ⟨wr.heap.size, 1, none⟩ = some (.int .i64 (S q)) := by simp
                have E1 := hidd (show tC C S p q = Fix.cl (rc (C q) (S q) (tC C S p' q) (tS C S p' q)) 16384 by rw [hp']; rfl)
                have E2 := hidd (show tS C S p q = Fix.cl (rs (C q) (S q) (tC C S p' q) (tS C S p' q)) 16384 by rw [hp']; rfl)
                have i1 : (0 : Int) ≤ (q : Int) := Int.natCast_nonneg _
                have i2 : (q : Int) < (n : Int) := by omega
                have i3 : (0 : Int) ≤ (p' : Int) := Int.natCast_nonneg _
                have i4 : (p' : Int) < (N : Int) := by omega
                have i5 : (p : Int) < (N : Int) := by omega
                have i6 : (0 : Int) ≤ (p : Int) := Int.natCast_nonneg _
                have j1 : IntKind.i64.wrap ((p : Int) - 1) = (p' : Int) := by rw [IntKind.wrap_i64]; omega
                clear hp' v1
                go_wp2
                have hfD := hf3.alloc (Nat.le_of_lt hsz3) (.cells #[.int .i64 (C q), .int .i64 (S q)] 79)
                have e1 := r4.cell (i := q * 2 + 1) (by omega)
                have f5 := f4 (q * 2)
                have f6 := f4 (q * 2 + 1)
                generalize wr.alloc (.cells #[.int .i64 (C q), .int .i64 (S q)] 79) = wd at *
                clear g1 hrC hoC ho f4
                have n1 : ¬ g = gk := by omega
                have n2 : ¬ h p' = gk := by omega
                have n3 : ¬ wr.heap.size = gk := by omega
                go_region_held3 (fun w' => w'.cell? ⟨g, p, none⟩ = some (.slice (some ⟨gk, 0, none⟩) n n) ∧ w'.cell? ⟨g, p', none⟩ = some (.slice (some ⟨h p', 0, none⟩) n n) ∧ w'.cell? ⟨h p', q * 2, none⟩ = some (.int .i64 (tC C S p' q)) ∧
                    w'.cell? ⟨h p', q * 2 + 1, none⟩ = some (.int .i64 (tS C S p' q)) ∧ w'.cell? ⟨wr.heap.size, 0, none⟩ = some (.int .i64 (C q)) ∧ w'.cell? ⟨wr.heap.size, 1, none⟩ = some (.int .i64 (S q)))
                  (first
                    | go_keep
                    | (go_split_ands
                       refine ⟨?_, ?_, ?_, ?_, ?_, ?_⟩
                       all_goals (first | (refine fresh_cell hfq ?_; assumption) | (refine set2_other ?_ ?_ <;> assumption))))
                  ((go_at_call 68; refine (turnOn_any _ _ _ _ _).mono ?_; rintro e w9 ⟨rfl, hfq⟩; have q1 := fresh_cell hfq e0; have q2 := fresh_cell hfq e1; have q3 := fresh_frozen hfq e0 f5; have q4 := fresh_frozen hfq e1 f6))
                rename_i hHeld
                clear hHeld
                have r9 := r4.of_block (hfq.block gk r4.lt)
                have hf9 := hfD.drew.trans (hfq.mono (Nat.le_of_lt r4.lt))
                clear q1 q2 q3 q4 k1 k2 k3 k4 k5 k6
                go_wp2
                go_roundw
                case rel => exact ⟨q + 1, _, hltq, by go_num, (r9.set (q * 2) _).set (q * 2 + 1) _, two_next' HF3.out E1.out E2.out, (hf9.setCell (Nat.le_refl _) _).setCell (Nat.le_refl _) _⟩
                case measure => simp [intOf]; omega
            · obtain rfl : q = n := by omega
              go_wp2
              go_roundw
              case rel =>
                refine ⟨p + 1, fun x => if x = p then gk else h x, _, hltp, by go_num, hrB.of_block (hf3.block g hgl), ?_, ?_, hfB.trans (hf3.mono (Nat.le_of_lt hgl))⟩
                · intro x hx
                  dsimp only
                  by_cases e : x = p
                  · subst e
                    rw [if_pos rfl, if_pos rfl]
                    exact ⟨rfl, hgl, hr3.congr HF3.out⟩
                  · rw [if_neg e, if_neg e]
                    obtain ⟨v1, v2, v3⟩ := HFF.out x (by omega)
                    have ho := hold.out x (by omega)
                    exact ⟨v1, v2, ho.2.of_block (hf3.block _ ho.1)⟩
                · intro x y hxy hy
                  dsimp only
                  by_cases e : y = p
                  · subst e
                    rw [if_neg (by omega), if_pos rfl]
                    exact HH.out x hxy
                  · rw [if_neg (by omega), if_neg e]
                    exact HI.out x y hxy (by omega)
              case measure => simp [intOf]; omega
        · obtain rfl : p = N := by omega
          go_wp2
          go_ret2
          exact ⟨_, h, F, rfl, by rw [← HG.out]; exact hsz, hrow, HF.out, HI.out, hf.trans (hf2.mono (by rw [← HG.out]; exact hsz))⟩
end Go.Proofs.YtmcefgpejocjfaaDoor
