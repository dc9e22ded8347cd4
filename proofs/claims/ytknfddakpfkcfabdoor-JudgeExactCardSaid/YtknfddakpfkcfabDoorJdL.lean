import Derived.Test.YtknfddakpfkcfabDoorJdK
import Derived.Test.YtknfddakpfkcfabDoorJxR
namespace Go.Proofs.YtknfddakpfkcfabDoor
open Go.RowKit Go.Shelf Go.Sort
/-! Plan. -/
theorem infoM : (Tryd.prog.info? 47).map (fun i => (i.zero, i.size, i.bytes)) = some (some (.agg #[.int .i64 0, .int .i64 0]), 2, 16) := by kernel_rfl
/-- the moves of the way's first k nodes -/
def mvL (S W Z : Nat → Int) : Nat → List (Int × Int)
  | 0 => []
  | k + 1 => mvL S W Z k ++ (if S (W k).toNat = Z k then [] else [(S (W k).toNat, Z k)])
theorem mvL_le (S W Z : Nat → Int) (k : Nat) : (mvL S W Z k).length ≤ k := by
  induction k with
  | zero => exact Nat.zero_le _
  | succ k ih =>
    unfold mvL
    split <;> simp <;> omega
theorem mvL_same {S W Z : Nat → Int} {k : Nat} (h : S (W k).toNat = Z k) : mvL S W Z (k + 1) = mvL S W Z k := by
  show mvL S W Z k ++ _ = _
  rw [if_pos h, List.append_nil]
theorem mvL_next {S W Z : Nat → Int} {k : Nat} (h : ¬ S (W k).toNat = Z k) : mvL S W Z (k + 1) = mvL S W Z k ++ [(S (W k).toNat, Z k)] := by
  show mvL S W Z k ++ _ = _
  rw [if_neg h]
def mayP (l : Nat) (W : Nat → Int) (ns lz : Nat) (Z : Nat → Int) : Prop := 1 ≤ l ∧ l ≤ lz ∧ plc W l ns ∧ ¬ alk Z l
structure PlA (l : Nat) (W : Nat → Int) (ns : Nat) (S : Nat → Int) (lz : Nat) (Z : Nat → Int) (w w' : World) (v : Value) (R : List (Int × Int)) (er : Int) : Prop where
  low : Below w.heap.size w w'
  bad : ¬ mayP l W ns lz Z → v = .slice none 0 0 ∧ R = [] ∧ er = 160
  ok : mayP l W ns lz Z → R = mvL S W Z l ∧ er = 0
  own : Own w' w.heap.size 47 2 v R.length (rwF R)
def PlP (l : Nat) (W : Nat → Int) (ns : Nat) (S : Nat → Int) (lz : Nat) (Z : Nat → Int) (w : World) (e : Ending) (w' : World) : Prop := ∃ v R er, e = .returned (.tuple #[v, .int .i64 er]) ∧ PlA l W ns S lz Z w w' v R er
theorem PlP.bad {l : Nat} {W : Nat → Int} {ns : Nat} {S : Nat → Int} {lz : Nat} {Z : Nat → Int} {w w' : World} {e : Ending} (h : e = .returned (.tuple #[.slice none 0 0, .int .i64 160])) (hb : Below w.heap.size w w') (hm : ¬ mayP l W ns lz Z) : PlP l W ns S lz Z w e w' :=
  ⟨_, [], _, h, hb, fun _ => ⟨rfl, rfl, rfl⟩, fun k => absurd k hm, own_nil _ _ _ _ _⟩
theorem PlP.ok {l : Nat} {W : Nat → Int} {ns : Nat} {S : Nat → Int} {lz : Nat} {Z : Nat → Int} {w w' : World} {e : Ending} {v : Value} (h : e = .returned (.tuple #[v, .int .i64 0])) (hb : Below w.heap.size w w') (hm : mayP l W ns lz Z) (ho : Own w' w.heap.size 47 2 v (mvL S W Z l).length (rwF (mvL S W Z l))) : PlP l W ns S lz Z w e w' :=
  ⟨_, _, _, h, hb, fun k => absurd hm k, fun _ => ⟨rfl, rfl⟩, ho⟩
theorem new_pair (w : World) (a b : Value) (t : TypeId) : Below w.heap.size w (w.alloc (.cells #[a, b] t)).drew ∧ (w.alloc (.cells #[a, b] t)).drew.cell? ⟨w.heap.size, 0, none⟩ = some a ∧ (w.alloc (.cells #[a, b] t)).drew.cell? ⟨w.heap.size, 1, none⟩ = some b := by
  refine ⟨fresh_trans (fresh_alloc w (.cells #[a, b] t)) (fresh_drewN _ 1), ?_, ?_⟩
  · show (w.alloc (.cells #[a, b] t)).cell? ⟨w.heap.size, 0, none⟩ = some a
    unfold World.cell?
    rw [World.alloc_heap_new]
    rfl
  · show (w.alloc (.cells #[a, b] t)).cell? ⟨w.heap.size, 1, none⟩ = some b
    unfold World.cell?
    rw [World.alloc_heap_new]
    rfl
set_option maxRecDepth 20000 in
set_option maxHeartbeats 1600000 in
theorem plan_any {w : World} {ao bo co : Option Addr} {l ns lz ca cb cc : Nat} {W S Z : Nat → Int} (ha : RdA w ao 1 l ca (fun i => .int .i64 (W i))) (hb : RdA w bo 1 ns cb (fun i => .int .i64 (S i))) (hc : RdA w co 1 lz cc (fun i => .int .i64 (Z i))) (hl : l ≤ 8796093022208) :
    Calls Tryd.prog 14 #[.slice ao l ca, .slice bo ns cb, .slice co lz cc] w (PlP l W ns S lz Z w) := by
  have hn1 : ns ≤ 9223372036854775807 := by have := hb.le; have := hb.top; unfold maxLen at this; omega
  have hn2 : lz ≤ 9223372036854775807 := by have := hc.le; have := hc.top; unfold maxLen at this; omega
  rcases Nat.eq_zero_or_pos l with e0 | hl0
  · subst e0
    have HM : Hid (¬ mayP 0 W ns lz Z) := fun q => absurd q.1 (by omega)
    go_enter Tryd.func14, Tryd.ntmps14
    go_wp2
    go_ret2
    exact PlP.bad rfl (Below.refl _ _) HM.out
  have d0 : ((l : Int) == 0) = false := by simp; omega
  by_cases hlz : lz < l
  · have d1 : decide ((lz : Int) < (l : Int)) = true := decide_eq_true (by omega)
    have d1b : decide (lz < l) = true := decide_eq_true hlz
    have HM : Hid (¬ mayP l W ns lz Z) := fun q => absurd q.2.1 (by omega)
    go_enter Tryd.func14, Tryd.ntmps14
    go_wp2
    go_ret2
    exact PlP.bad rfl (Below.refl _ _) HM.out
  have d1 : decide ((lz : Int) < (l : Int)) = false := decide_eq_false (by omega)
  have d1b : decide (lz < l) = false := decide_eq_false hlz
  have HPL : Hid (∀ b : Bool, (b = true ↔ plc W l ns) → Calls Tryd.prog 25 #[.slice ao l ca, .int .i64 (ns : Int)] w fun e w' => e = .returned (.bool b) ∧ Below w.heap.size w w') := fun b hb => (arePlaces_any (m := ns) ha).mono (fun e w2 q => by
    obtain ⟨⟨r, e1, e2⟩, q2⟩ := q
    have : r = b := Bool.eq_iff_iff.2 (e2.trans hb.symm)
    rw [this] at e1
    exact ⟨e1, q2⟩)
  by_cases hp : plc W l ns
  · obtain ⟨b1, o1, rfl, h1⟩ := ha.one hl0
    have hns : 0 < ns := by have := hp 0 hl0; omega
    obtain ⟨b2, o2, rfl, h2⟩ := hb.one hns
    obtain ⟨b3, o3, rfl, h3⟩ := hc.one (by omega)
    have hcz := hc.le
    have htop := hc.top
    unfold maxLen at htop
    have HA := hidd h1
    have HS := hidd h2
    have HZ := hidd h3
    have HP1 := hidd (HPL.out true ⟨fun _ => hp, fun _ => rfl⟩)
    have HPC := hidd hp
    have l0 : (0 : Int) ≤ (l : Int) := by omega
    have l1 : (l : Int) ≤ (cc : Int) := by omega
    have HZC : Hid (RdA w (some ⟨b3, o3, none⟩) 1 l cc (fun i => .int .i64 (Z i))) := hc.firsts (by omega)
    have HHA : Hid (∀ b : Bool, (b = true ↔ alk Z l) → ∀ w1, Below w.heap.size w w1 → Calls Tryd.prog 26 #[.slice (some ⟨b3, o3, none⟩) l cc] w1 fun e w' => e = .returned (.bool b) ∧ Below w1.heap.size w1 w') := fun b hb w1 f1 => (hasAlike_any (HZC.out.fresh f1) hl0 (by omega)).mono (fun e w2 q => by
      obtain ⟨⟨r, e1, e2⟩, q2⟩ := q
      have : r = b := Bool.eq_iff_iff.2 (e2.trans hb.symm)
      rw [this] at e1
      exact ⟨e1, q2⟩)
    clear ha hb hc h1 h2 h3 hp HPL
    by_cases hal : alk Z l
    · have HH1 := hidd (HHA.out true ⟨fun _ => hal, fun _ => rfl⟩)
      have HM : Hid (¬ mayP l W ns lz Z) := fun q => absurd hal q.2.2.2
      clear hal HHA
      go_enter Tryd.func14, Tryd.ntmps14
      go_wp2_with (first
        | (go_at_call 25; with_reducible refine HP1.out.mono ?_; rintro e w1 ⟨rfl, hb1⟩; have HB1 := hidd hb1; have HH2 := hidd (HH1.out _ hb1); clear HP1 hb1 HH1)
        | (go_at_call 26; with_reducible refine HH2.out.mono ?_; rintro e w2 ⟨rfl, hb2⟩; have HB2 := hidd (HB1.out.trans (hb2.mono HB1.out.size)); clear HH2 hb2))
      go_ret2
      exact PlP.bad rfl HB2.out HM.out
    · have HH1 := hidd (HHA.out false ⟨fun q => (by cases q), fun q => absurd q hal⟩)
      have HM : Hid (mayP l W ns lz Z) := ⟨hl0, by omega, HPC.out, hal⟩
      clear hal HHA
      go_enter Tryd.func14, Tryd.ntmps14
      go_wp2_with (first
        | (go_at_call 25; with_reducible refine HP1.out.mono ?_; rintro e w1 ⟨rfl, hb1⟩; have HB1 := hidd hb1; have HH2 := hidd (HH1.out _ hb1); clear HP1 hb1 HH1)
        | (go_at_call 26; with_reducible refine HH2.out.mono ?_; rintro e w2 ⟨rfl, hb2⟩; have HB2 := hidd (HB1.out.trans (hb2.mono HB1.out.size)); clear HH2 hb2))
      clear d0 d1 d1b l0 l1
      go_loopw [8, 38] (fun v i wr => ∃ k : Nat, k ≤ l ∧ i = .int .i64 k ∧ Hid (Own wr w.heap.size 47 2 v (mvL S W Z k).length (rwF (mvL S W Z k))) ∧ Hid (Below w.heap.size w wr)) (fun _ i _ => l - (intOf i).toNat)
      case atStart => exact ⟨0, by omega, rfl, own_nil _ _ _ _ _, HB2⟩
      case round =>
        obtain ⟨k, hk, rfl, HO, HF⟩ := hrel
        have hsz := HF.out.size
        by_cases hlt : k < l
        · have x1 := fresh_cell HF.out (HA.out k hlt)
          have x3 := fresh_cell HF.out (HZ.out k (by omega))
          have hw := HPC.out k hlt
          obtain ⟨v, HV⟩ : ∃ y, Hid (y = W k) := ⟨_, rfl⟩
          rw [← HV.out] at x1 hw
          obtain ⟨x, rfl⟩ : ∃ x : Nat, v = (x : Int) := ⟨v.toNat, by omega⟩
          obtain ⟨i0, i1⟩ := hw
          have x2 := fresh_cell HF.out (HS.out x (by omega))
          obtain ⟨y, HY⟩ : ∃ y, Hid (y = S x) := ⟨_, rfl⟩
          obtain ⟨z, HZ0⟩ : ∃ y, Hid (y = Z k) := ⟨_, rfl⟩
          rw [← HY.out] at x2
          rw [← HZ0.out] at x3
          have k0 : (0 : Int) ≤ (k : Int) := by omega
          have k1 : (k : Int) < (l : Int) := by omega
          have k2 : (k : Int) < (lz : Int) := by omega
          have y2 := fresh_cell (fresh_alloc wr (.cells #[.int .i64 0, .int .i64 0] 47)) x2
          have y3 := fresh_cell (fresh_alloc wr (.cells #[.int .i64 0, .int .i64 0] 47)) x3
          go_upto_region 7 with fail
          go_region
          clear y2 y3 x1 x2 x3
          obtain ⟨wq, HWQ⟩ : ∃ q, Hid (q = (wr.alloc (.cells #[.int .i64 y, .int .i64 z] 47)).drew) := ⟨_, rfl⟩
          obtain ⟨p1, q0, q1⟩ := new_pair wr (.int .i64 y) (.int .i64 z) 47
          rw [← HWQ.out] at p1 q0 q1
          have HFQ := hidd p1
          clear p1
          have HG := hidd (HF.out.trans (HFQ.out.mono HF.out.size))
          have HOQ := hidd (HO.out.kept HFQ.out)
          have hszq := HG.out.size
          rw [← HWQ.out]
          clear HO HF HFQ HWQ
          have HSW : Hid (S (W k).toNat = y) := by show _ = _; rw [← HV.out, Int.toNat_natCast, HY.out]
          by_cases e : y = z
          · have d1 : (y != z) = false := by simp; exact e
            have HE : Hid (mvL S W Z (k + 1) = mvL S W Z k) := mvL_same (by rw [HSW.out, e, HZ0.out])
            clear e
            go_wp2
            go_roundw
            case rel => exact ⟨k + 1, by omega, by go_num, by rw [HE.out]; exact HOQ, HG⟩
            case measure => simp [intOf]; omega
          · have d1 : (y != z) = true := by simp; exact e
            have HE : Hid (mvL S W Z (k + 1) = mvL S W Z k ++ [(y, z)]) := by
              show _ = _
              rw [mvL_next (by rw [HSW.out, ← HZ0.out]; exact e), HSW.out, ← HZ0.out]
            have hle := mvL_le S W Z k
            obtain ⟨R, HR⟩ : ∃ R, Hid (R = mvL S W Z k) := ⟨_, rfl⟩
            rw [← HR.out] at HE HOQ hle
            have HX : Hid (∀ (w0 : World), ∀ j, j < 1 * 2 → (w0.alloc (.cells #[.int .i64 y, .int .i64 z] 47)).cell? ⟨w0.heap.size, j, none⟩ = some (rwF (R ++ [(y, z)]) (R.length * 2 + j))) := fun w0 j hj => by
              unfold World.cell?
              rw [World.alloc_heap_new]
              match j, hj with
              | 0, _ => rw [Nat.add_zero, rwF_0, rwF_new]; rfl
              | 1, _ => rw [rwF_1, rwF_new]; rfl
            have HO2 := hidd (HOQ.out.congr (cs' := rwF (R ++ [(y, z)])) (fun j hj => (rwF_app R [(y, z)] hj).symm))
            clear e HOQ
            go_wp2_with (at_builtin; refine wpList_app _ rfl _ _ 43 rfl w.heap.size 47 (.agg #[.int .i64 0, .int .i64 0]) 2 16 Tryd.underlying43 infoM rfl (by decide) _ R.length (rwF (R ++ [(y, z)])) rfl (HO2.out.kept (fresh_alloc _ _)) _ 1 1 rfl (HX.out _) (fun j _ => rwF_one _ _) (by decide) (by unfold maxLen; omega) (by omega) (by simp; omega) ?_)
            intro v' w4 hown' happ
            have HF4 := hidd (happ.below (HG.out.alloc hszq _) (HO2.out.kept (fresh_alloc _ _)) (Nat.le_refl _) (by simp; omega))
            have HO4 : Hid (Own w4 w.heap.size 47 2 v' (mvL S W Z (k + 1)).length (rwF (mvL S W Z (k + 1)))) := by rw [HE.out, List.length_append]; exact hown'
            clear happ hown' HX
            go_wp2
            go_roundw
            case rel => exact ⟨k + 1, by omega, by go_num, HO4, HF4⟩
            case measure => simp [intOf]; omega
        · obtain rfl : k = l := by omega
          obtain ⟨u4, uc4, rfl, _⟩ := HO.out.rd
          go_wp2
          go_ret2
          exact PlP.ok rfl HF.out HM.out HO.out
  · have HP1 := hidd (HPL.out false ⟨fun q => (by cases q), fun q => absurd q hp⟩)
    have HM : Hid (¬ mayP l W ns lz Z) := fun q => absurd q.2.2.1 hp
    clear ha hb hc hp HPL
    go_enter Tryd.func14, Tryd.ntmps14
    go_wp2_with (go_at_call 25; with_reducible refine HP1.out.mono ?_; rintro e w1 ⟨rfl, hb1⟩; have HB1 := hidd hb1; clear HP1 hb1)
    go_ret2
    exact PlP.bad rfl HB1.out HM.out
end Go.Proofs.YtknfddakpfkcfabDoor
