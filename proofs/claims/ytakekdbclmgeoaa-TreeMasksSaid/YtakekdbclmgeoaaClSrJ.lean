import Derived.Test.YtakekdbclmgeoaaClSrI
namespace Go.Proofs.Ytakekdbclmgeoaa.Cl
open Go.RowKit
/-! byDepth. -/
theorem infoIs : (Try.prog.info? 3).map (fun i => (i.zero, i.size, i.bytes)) = some (some (.int .i64 0), 1, 8) := by kernel_rfl
theorem NdK.fresh {w w' : World} {bx M : Nat} {K : Nat → Int} {nb o c : Nat} (h : NdK w bx M K nb o c) (f : Below w.heap.size w w') : NdK w' bx M K nb o c := ⟨fresh_cell f h.box, fun i hi => fresh_cell f (h.at_ i hi)⟩
theorem zero_first {D : Nat → Int} {d : Nat → Nat} {n : Nat} (hn : 1 ≤ n) (hf : Fr (fun i => i) d 0 n) (hs : Srt D d 0 n) (hd : ∀ i, 0 < i → i < n → D 0 < D i) : d 0 = 0 := by
  have hb : ∀ i, i < n → d i < n := hf.below (fun i hi => hi)
  obtain ⟨i, i1, i2⟩ := onto_of n d hb (fun i j h1 h2 e => hs.inj h1 h2 e) 0 (by omega)
  by_cases q : i = 0
  · rw [← q, i2, q]
  · have k := hs 0 i (Nat.le_refl _) (by omega) i1
    rw [i2] at k
    by_cases q2 : d 0 = 0
    · exact q2
    · have := hd (d 0) (by omega) (hb 0 (by omega))
      unfold ltK at k
      omega
/-- the first k nodes of the new list, zeros behind -/
def ouF (P T D : Nat → Int) (k : Nat) : Nat → Value := fun j => if j < k * 3 then nds P T D j else .int .i64 0
theorem ouF_next (P T D : Nat → Int) (k j : Nat) : (if j = k * 3 + 2 then Value.int .i64 (D k) else if j = k * 3 + 1 then .int .i64 (T k) else if j = k * 3 then .int .i64 (P k) else ouF P T D k j) = ouF P T D (k + 1) j := by
  unfold ouF
  by_cases h1 : j = k * 3 + 2
  · subst h1; rw [if_pos rfl, if_pos (by omega), nds_2]
  · rw [if_neg h1]
    by_cases h2 : j = k * 3 + 1
    · subst h2; rw [if_pos rfl, if_pos (by omega), nds_1]
    · rw [if_neg h2]
      by_cases h3 : j = k * 3
      · subst h3; rw [if_pos rfl, if_pos (by omega), nds_0]
      · rw [if_neg h3]
        by_cases h4 : j < k * 3
        · rw [if_pos h4, if_pos (by omega)]
        · rw [if_neg h4, if_neg (by omega)]
theorem ouF_next2 (P T D : Nat → Int) (y : Value) (k j : Nat) : (if j = k * 3 then Value.int .i64 (P k) else if j = k * 3 + 2 then Value.int .i64 (D k) else if j = k * 3 + 1 then .int .i64 (T k) else if j = k * 3 then y else ouF P T D k j) = ouF P T D (k + 1) j := by
  rw [← ouF_next]
  by_cases h : j = k * 3
  · rw [if_pos h, if_neg (by omega), if_neg (by omega), if_pos h]
  · rw [if_neg h, if_neg h, if_neg h]
theorem mv_succ (d : Nat → Nat) (k v : Nat) : mv d (k + 1) v = if v = d k then k else mv d k v := rfl
set_option maxRecDepth 20000 in
set_option maxHeartbeats 4000000 in
theorem byDepth_any {w : World} {nb o n cap : Nat} {P T D : Nat → Int} (h : RdA w (some ⟨nb, o, none⟩) 3 n cap (nds P T D)) (hn : 1 ≤ n) (hN : n ≤ 1048576) (hb : nb < w.heap.size) (hp : ∀ i, 0 < i → i < n → 0 ≤ P i ∧ P i < n) (hd : ∀ i, 0 < i → i < n → D 0 < D i) :
    Calls Try.prog 44 #[.slice (some ⟨nb, o, none⟩) n cap] w fun e w' => ∃ d : Nat → Nat, Fr (fun i => i) d 0 n ∧ Srt D d 0 n ∧ d 0 = 0 ∧ ∃ g, w.heap.size ≤ g ∧ e = .returned (.slice (some ⟨g, 0, none⟩) n n) ∧ w'.rowIs g 54 (n * 3) (nds (ouP P d (mv d n)) (fun i => T (d i)) (fun i => D (d i))) ∧ Below w.heap.size w w' := by
  obtain ⟨iI, hiI, zI0, zI1, zI2⟩ := info_parts infoIs
  have hmk : ∀ w, (Instr.makeSlice 47 (.int .i64 (n : Int)) (.int .i64 (n : Int))).run Try.prog w = .ok (.slice (some ⟨w.heap.size, 0, none⟩) n n) (w.alloc (.cells (madeCells #[.int .i64 0] n) 3)) := run_make_row 47 3 iI (.int .i64 0) Try.underlying47 hiI zI0 zI1 rfl .i64 .i64 n (by rw [zI2]; omega) (by omega)
  clear hiI zI0 zI1 zI2
  have hmn := run_make_nodes n hN
  have HP := hidd hp
  have HDp := hidd hd
  obtain ⟨bx, HBX⟩ : ∃ b, Hid (b = w.heap.size) := ⟨_, rfl⟩
  obtain ⟨w0, HW0⟩ : ∃ x, Hid (x = w.alloc (.cells #[.slice (some ⟨nb, o, none⟩) n cap] 29)) := ⟨_, rfl⟩
  have HF0 : Hid (Below w.heap.size w w0) := by rw [HW0.out]; exact fresh_alloc _ _
  have HZ0 : Hid (w0.heap.size = bx + 1) := by show _ = _; rw [HW0.out, HBX.out]; simp
  have c0 : w0.cell? ⟨bx, 0, none⟩ = some (.slice (some ⟨nb, o, none⟩) n cap) := by
    rw [HW0.out, HBX.out]
    unfold World.cell?
    rw [World.alloc_heap_new]
    rfl
  have HND : Hid (∀ i, i < n → w0.cell? ⟨nb, o + i * 3, none⟩ = some (.int .i64 (P i)) ∧ w0.cell? ⟨nb, o + i * 3 + 1, none⟩ = some (.int .i64 (T i)) ∧ w0.cell? ⟨nb, o + i * 3 + 2, none⟩ = some (.int .i64 (D i))) := by
    obtain ⟨b', o', e, hc⟩ := (h.fresh HF0.out).node (by omega)
    cases e
    exact hc
  have HK0 : Hid (NdK w0 bx n D nb o cap) := ⟨c0, fun i hi => (HND.out i hi).2.2⟩
  have HR0 := hidd (World.rowIs_made w0 (.int .i64 0) n 3)
  have HB0 := hidd (fresh_alloc w0 (.cells (madeCells #[.int .i64 0] n) 3))
  have HZA : Hid ((w0.alloc (.cells (madeCells #[.int .i64 0] n) 3)).heap.size = w0.heap.size + 1) := by show _ = _; simp
  have HNB : Hid (nb < bx) := by show nb < bx; rw [HBX.out]; exact hb
  clear hp hd h hb
  go_enter Try.func44, Try.ntmps44
  go_upto_region 1 with fail
  rw [← HW0.out, ← HBX.out]
  obtain ⟨g, HG⟩ : ∃ g, Hid (g = w0.heap.size) := ⟨_, rfl⟩
  go_wp2
  rw [← HG.out]
  rw [← HG.out] at HR0 HB0 HZA
  clear c0
  go_loopw [16] (fun i wr => ∃ k : Nat, k ≤ n ∧ i = .int .i64 (k : Int) ∧ Hid (wr.rowIs g 3 n (fun j => .int .i64 (((if j < k then j else 0 : Nat)) : Int))) ∧ Hid (Below g w0 wr) ∧ Hid (wr.heap.size = g + 1)) (fun i _ => n - (intOf i).toNat)
  case atStart => exact ⟨0, Nat.zero_le _, by first | rfl | simp, HR0.out.congr (fun j _ => by rw [if_neg (by omega)]; rfl), HB0, HZA⟩
  case round =>
    clear HR0 HB0 HZA
    obtain ⟨k, hk, rfl, HR, HB, HZ⟩ := hrel
    by_cases hlt : k < n
    · have c1 := HR.out.cell (i := k) hlt
      have fr := HR.out.frozen
      have i0 : (0 : Int) ≤ (k : Int) := by omega
      have i1 : (k : Int) < (n : Int) := by omega
      go_wp2
      go_roundw
      case rel =>
        refine ⟨k + 1, by omega, by go_num, (HR.out.set k (.int .i64 (k : Int))).congr (fun j _ => ?_), HB.out.setCell (Nat.le_refl _) _, ?_⟩
        · by_cases e : j = k
          · subst e; rw [if_pos rfl, if_pos (by omega)]
          · rw [if_neg e]
            by_cases e2 : j < k
            · rw [if_pos e2, if_pos (by omega)]
            · rw [if_neg e2, if_neg (by omega)]
        · show _ = _; have := HZ.out; simp; exact this
      case measure => simp [intOf]; omega
    · obtain rfl : k = n := by omega
      have HR1 : Hid (wr.rowIs g 3 k (fun j => .int .i64 (((fun i => i) j : Nat) : Int))) := HR.out.congr (fun j hj => by rw [if_pos hj])
      have HB1 := HB
      rw [HG.out] at HB1
      have HSO := hidd (sortst_any (c := k) (d := fun i => i) HR1.out hN (HK0.out.fresh HB1.out) (by have := HG.out; have := HZ0.out; omega) (by have := HG.out; have := HZ0.out; have := HNB.out; omega) (fun i hi => hi) (fun u v q _ => q))
      go_wp2_with fail
      refine HSO.out.mono ?_
      rintro e w2 ⟨rfl, d, k1, k2, k3⟩
      have HR2 : Hid (w2.rowIs g 3 k (fun i => .int .i64 ((d i : Nat) : Int))) := k1.row
      have HF2 : Hid (Below w0.heap.size w0 w2) := HB1.out.trans (k1.low (Nat.le_of_eq HG.out.symm))
      have HFr := hidd k2
      have HSr := hidd k3
      have c2 : w2.cell? ⟨bx, 0, none⟩ = some (.slice (some ⟨nb, o, none⟩) k cap) := fresh_cell HF2.out HK0.out.box
      have HDL : Hid (∀ i, i < k → d i < k) := k2.below (fun i hi => hi)
      have HIJ : Hid (∀ i j, i < k → j < k → d i = d j → i = j) := fun i j q1 q2 q3 => k3.inj q1 q2 q3
      have HD0 : Hid (d 0 = 0) := zero_first hn k2 k3 HDp.out
      clear k1 k2 k3 HSO HR HB HR1 HB1 HZ hlt hk HDp
      obtain ⟨g2, HG2⟩ : ∃ x, Hid (x = w2.heap.size) := ⟨_, rfl⟩
      have HR3 := hidd (World.rowIs_made w2 (.int .i64 0) k 3)
      have HB3 := hidd (fresh_alloc w2 (.cells (madeCells #[.int .i64 0] k) 3))
      have HLG : Hid (g < g2) := by show g < g2; rw [HG2.out]; exact HR2.out.lt
      rw [← HG2.out] at HR3 HB3
      go_wp2
      rw [← HG2.out]
      clear c2 hmk
      rename World => wA
      go_loopw [32] (fun i wr => ∃ j : Nat, j ≤ k ∧ i = .int .i64 (j : Int) ∧ Hid (wr.rowIs g2 3 k (fun v => .int .i64 ((mv d j v : Nat) : Int))) ∧ Hid (Below g2 wA wr)) (fun i _ => k - (intOf i).toNat)
      case atStart => exact ⟨0, Nat.zero_le _, by first | rfl | simp, HR3.out.congr (fun _ _ => rfl), HB3⟩
      case round =>
        clear HR3 HB3
        obtain ⟨j, hj, rfl, HR, HB⟩ := hrel
        have HBo := HB
        rw [HG2.out] at HBo
        by_cases hlt : j < k
        · obtain ⟨x, HX⟩ : ∃ x, Hid (x = d j) := ⟨_, rfl⟩
          have hx : x < k := by rw [HX.out]; exact HDL.out j hlt
          have c1 : wr.cell? ⟨g, j, none⟩ = some (.int .i64 (x : Int)) := by rw [HX.out]; exact fresh_cell HBo.out (HR2.out.cell (i := j) hlt)
          have c3 := HR.out.cell (i := x) hx
          have fr := HR.out.frozen
          have i0 : (0 : Int) ≤ (j : Int) := by omega
          have i1 : (j : Int) < (k : Int) := by omega
          have i2 : (0 : Int) ≤ (x : Int) := by omega
          have i3 : (x : Int) < (k : Int) := by omega
          go_wp2
          go_roundw
          case rel =>
            refine ⟨j + 1, by omega, by go_num, (HR.out.set x (.int .i64 (j : Int))).congr (fun v _ => ?_), HB.out.setCell (Nat.le_refl _) _⟩
            rw [mv_succ, ← HX.out]
            split <;> rfl
          case measure => simp [intOf]; omega
        · obtain rfl : j = k := by omega
          have HF4 : Hid (Below w0.heap.size w0 wr) := fresh_trans HF2.out HBo.out
          have c4 : wr.cell? ⟨bx, 0, none⟩ = some (.slice (some ⟨nb, o, none⟩) j cap) := fresh_cell HF4.out HK0.out.box
          have HO4 : Hid (∀ i, i < j → wr.cell? ⟨g, i, none⟩ = some (.int .i64 ((d i : Nat) : Int))) := fun i hi => fresh_cell HBo.out (HR2.out.cell (i := i) hi)
          have HM4 := HR
          obtain ⟨g3, HG3⟩ : ∃ x, Hid (x = wr.heap.size) := ⟨_, rfl⟩
          have HLG3 : Hid (g2 < g3) := by show g2 < g3; rw [HG3.out]; exact HR.out.lt
          have HR5 := hidd (made3 wr j 54)
          have HB5 := hidd (fresh_alloc wr (.cells (madeCells #[.int .i64 0, .int .i64 0, .int .i64 0] (j * 3)) 54))
          rw [← HG3.out] at HR5 HB5
          clear HR HB HBo hlt hj HF2 HR2
          go_wp2
          rw [← HG3.out]
          clear c4 hmn
          rename World => wB
          go_loopw [47] (fun i wr => ∃ l : Nat, l ≤ j ∧ i = .int .i64 (l : Int) ∧ Hid (wr.rowIs g3 54 (j * 3) (ouF (ouP P d (mv d j)) (fun i => T (d i)) (fun i => D (d i)) l)) ∧ Hid (Below g3 wB wr)) (fun i _ => j - (intOf i).toNat)
          case atStart => exact ⟨0, Nat.zero_le _, by first | rfl | simp, HR5.out.congr (fun i _ => by unfold ouF; rw [if_neg (by omega)]), HB5⟩
          case round =>
            clear HR5 HB5
            obtain ⟨l, hl, rfl, HR, HB⟩ := hrel
            have HBo := HB
            rw [HG3.out] at HBo
            have HF6 : Hid (Below w0.heap.size w0 wr) := fresh_trans HF4.out HBo.out
            by_cases hlt : l < j
            · obtain ⟨x, HX⟩ : ∃ x, Hid (x = d l) := ⟨_, rfl⟩
              have hx : x < j := by rw [HX.out]; exact HDL.out l hlt
              have c1 : wr.cell? ⟨g, l, none⟩ = some (.int .i64 (x : Int)) := by rw [HX.out]; exact fresh_cell HBo.out (HO4.out l hlt)
              have c2 : wr.cell? ⟨bx, 0, none⟩ = some (.slice (some ⟨nb, o, none⟩) j cap) := fresh_cell HF6.out HK0.out.box
              obtain ⟨n1, n2, n3⟩ := HND.out x hx
              have n1 := fresh_cell HF6.out n1
              have n2 := fresh_cell HF6.out n2
              have n3 := fresh_cell HF6.out n3
              have r0 := HR.out.cell (i := l * 3) (by omega)
              have r1 := HR.out.cell (i := l * 3 + 1) (by omega)
              have r2 := HR.out.cell (i := l * 3 + 2) (by omega)
              have fr := HR.out.frozen
              have i0 : (0 : Int) ≤ (l : Int) := by omega
              have i1 : (l : Int) < (j : Int) := by omega
              have i2 : (0 : Int) ≤ (x : Int) := by omega
              have i3 : (x : Int) < (j : Int) := by omega
              by_cases hl0 : l = 0
              · have d1 : decide ((0 : Int) < (l : Int)) = false := decide_eq_false (by omega)
                have d2 : decide (0 < l) = false := decide_eq_false (by omega)
                have d3 : ¬ ((0 : Int) < (l : Int)) := by omega
                have HPL : Hid (ouP P d (mv d j) l = P x) := by show _ = _; unfold ouP; rw [if_pos hl0, HX.out, hl0]
                have HTL : Hid (T x = T (d l) ∧ D x = D (d l)) := by rw [HX.out]; exact ⟨rfl, rfl⟩
                clear hl0
                generalize P x = y1 at n1 HPL
                generalize T x = y2 at n2 HTL
                generalize D x = y3 at n3 HTL
                go_wp2
                go_roundw
                case rel =>
                  refine ⟨l + 1, by omega, by go_num, (((HR.out.set (l * 3) (.int .i64 y1)).set (l * 3 + 1) (.int .i64 y2)).set (l * 3 + 2) (.int .i64 y3)).congr (fun v _ => ?_), ((HB.out.setCell (Nat.le_refl _) _).setCell (Nat.le_refl _) _).setCell (Nat.le_refl _) _⟩
                  rw [← ouF_next, HPL.out, ← HTL.out.1, ← HTL.out.2]
                case measure => simp [intOf]; omega
              · have d1 : decide ((0 : Int) < (l : Int)) = true := decide_eq_true (by omega)
                have d2 : decide (0 < l) = true := decide_eq_true (by omega)
                have d3 : (0 : Int) < (l : Int) := by omega
                have hx0 : 0 < x := by
                  by_cases q : x = 0
                  · exact absurd (HIJ.out l 0 hlt (by omega) (by rw [HD0.out, ← HX.out, q])) hl0
                  · omega
                have HXP := hidd (HP.out x hx0 hx)
                obtain ⟨p, HPP⟩ : ∃ p : Nat, Hid (p = (P x).toNat) := ⟨_, rfl⟩
                have HPI : Hid (P x = (p : Int)) := by have := HXP.out; have := HPP.out; show P x = (p : Int); omega
                have hpj : p < j := by have := HXP.out; have := HPI.out; omega
                have HPL : Hid (ouP P d (mv d j) l = ((mv d j p : Nat) : Int)) := by show _ = _; unfold ouP; rw [if_neg hl0, HPP.out, HX.out]
                have HTL : Hid (T x = T (d l) ∧ D x = D (d l)) := by rw [HX.out]; exact ⟨rfl, rfl⟩
                have HN1 := hidd (HND.out x hx).1
                rw [HPI.out] at n1 HN1
                clear hl0 HPI HPP HXP hx0
                generalize T x = y2 at n2 HTL
                generalize D x = y3 at n3 HTL
                have HQ := hidd (((HR.out.set (l * 3) (.int .i64 (p : Int))).set (l * 3 + 1) (.int .i64 y2)).set (l * 3 + 2) (.int .i64 y3))
                have HQB : Hid (Below g3 wB (((wr.setCell ⟨g3, l * 3, none⟩ (.int .i64 (p : Int))).setCell ⟨g3, l * 3 + 1, none⟩ (.int .i64 y2)).setCell ⟨g3, l * 3 + 2, none⟩ (.int .i64 y3))) := ((HB.out.setCell (Nat.le_refl _) _).setCell (Nat.le_refl _) _).setCell (Nat.le_refl _) _
                have HF7 : Hid (Below w0.heap.size w0 (((wr.setCell ⟨g3, l * 3, none⟩ (.int .i64 (p : Int))).setCell ⟨g3, l * 3 + 1, none⟩ (.int .i64 y2)).setCell ⟨g3, l * 3 + 2, none⟩ (.int .i64 y3))) := HF4.out.trans (HQB.out.mono (by rw [HG3.out]; exact HF4.out.size))
                have m1 : (((wr.setCell ⟨g3, l * 3, none⟩ (.int .i64 (p : Int))).setCell ⟨g3, l * 3 + 1, none⟩ (.int .i64 y2)).setCell ⟨g3, l * 3 + 2, none⟩ (.int .i64 y3)).cell? ⟨bx, 0, none⟩ = some (.slice (some ⟨nb, o, none⟩) j cap) := fresh_cell HF7.out HK0.out.box
                have m2 : (((wr.setCell ⟨g3, l * 3, none⟩ (.int .i64 (p : Int))).setCell ⟨g3, l * 3 + 1, none⟩ (.int .i64 y2)).setCell ⟨g3, l * 3 + 2, none⟩ (.int .i64 y3)).cell? ⟨nb, o + x * 3, none⟩ = some (.int .i64 (p : Int)) := fresh_cell HF7.out HN1.out
                have m3 : (((wr.setCell ⟨g3, l * 3, none⟩ (.int .i64 (p : Int))).setCell ⟨g3, l * 3 + 1, none⟩ (.int .i64 y2)).setCell ⟨g3, l * 3 + 2, none⟩ (.int .i64 y3)).cell? ⟨g2, p, none⟩ = some (.int .i64 ((mv d j p : Nat) : Int)) := by
                  have q := HM4.out.cell (i := p) hpj
                  have e := HQB.out.block g2 HLG3.out
                  unfold World.cell? at q ⊢
                  simp only [e]
                  exact q
                have m4 := HQ.out.cell (i := l * 3) (by omega)
                have fr2 := HQ.out.frozen
                have i4 : (0 : Int) ≤ (p : Int) := by omega
                have i5 : (p : Int) < (j : Int) := by omega
                generalize mv d j p = z at m3 HPL
                clear HF7
                go_wp2
                go_roundw
                case rel =>
                  refine ⟨l + 1, by omega, by go_num, (HQ.out.set (l * 3) (.int .i64 ((z : Nat) : Int))).congr (fun v _ => ?_), HQB.out.setCell (Nat.le_refl _) _⟩
                  rw [← ouF_next2 _ _ _ (.int .i64 (p : Int)), HPL.out, ← HTL.out.1, ← HTL.out.2]
                case measure => simp [intOf]; omega
            · obtain rfl : l = j := by omega
              have HEND : Hid (wr.rowIs g3 54 (l * 3) (nds (ouP P d (mv d l)) (fun i => T (d i)) (fun i => D (d i)))) := HR.out.congr (fun v hv => if_pos hv)
              have HLOW : Hid (Below w.heap.size w wr) := fresh_trans HF0.out HF6.out
              have HGE : Hid (w.heap.size ≤ g3) := by show _ ≤ g3; rw [HG3.out]; exact Nat.le_trans HF0.out.size HF4.out.size
              go_wp2
              go_ret
              exact ⟨d, HFr.out, HSr.out, HD0.out, g3, HGE.out, rfl, HEND.out, HLOW.out⟩
end Go.Proofs.Ytakekdbclmgeoaa.Cl
