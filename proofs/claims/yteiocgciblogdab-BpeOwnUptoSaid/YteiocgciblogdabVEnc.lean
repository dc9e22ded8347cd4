import Derived.Test.YteiocgciblogdabVByB
import Derived.Test.YteiocgciblogdabVJoin
namespace Go.Proofs.Yteiocgciblogdab
open Go.RowKit
/-! Encode. -/
def VD.encL (d : VD) (l : List Int) : Nat → List Int
  | 0 => l
  | k + 1 => joinL (d.P k) (d.Q k) (1 + (d.nb : Int) + (k : Int)) (d.encL l k)
def VD.first (d : VD) (X : Nat → Int) (n : Nat) : List Int := (List.range n).map (fun i => d.tok (X i))
theorem VD.first_len (d : VD) (X : Nat → Int) (n : Nat) : (d.first X n).length = n := by simp [VD.first]
theorem VD.first_at (d : VD) (X : Nat → Int) (n : Nat) {j : Nat} (h : j < n) : (d.first X n).getD j 0 = d.tok (X j) := by simp [VD.first, h]
theorem VD.encL_len (d : VD) (l : List Int) : ∀ k, (d.encL l k).length ≤ l.length
  | 0 => Nat.le_refl _
  | k + 1 => Nat.le_trans (joinL_len _ _ _ _) (VD.encL_len d l k)
/-- what Encode of n bytes gives -/
def VD.encOut (d : VD) (X : Nat → Int) (n : Nat) (x : Int) (l : List Int) : Prop :=
  (¬ d.Right ∧ x = 50 ∧ l = []) ∨ (d.Right ∧ (∃ i, i < n ∧ d.tok (X i) = 0) ∧ x = 51 ∧ l = []) ∨ (d.Right ∧ (∀ i, i < n → d.tok (X i) ≠ 0) ∧ x = 0 ∧ l = d.encL (d.first X n) d.np)
theorem VD.encOut_some (d : VD) (X : Nat → Int) (n : Nat) : ∃ x l, d.encOut X n x l := by
  by_cases h : d.Right
  · by_cases g : ∀ i, i < n → d.tok (X i) ≠ 0
    · exact ⟨_, _, .inr (.inr ⟨h, g, rfl, rfl⟩)⟩
    · exact ⟨_, _, .inr (.inl ⟨h, Classical.byContradiction fun c => g fun i hi e => c ⟨i, hi, e⟩, rfl, rfl⟩)⟩
  · exact ⟨_, _, .inl ⟨h, rfl, rfl⟩⟩
/-- a list of ints of the call's own -/
def OwnI (w : World) (base : Nat) (v : Value) (l : List Int) : Prop := Own w base 3 1 v l.length (fun j => .int .i64 (l.getD j 0))
theorem ownI_nil (w : World) (base : Nat) : OwnI w base (.slice none 0 0) [] := own_nil _ _ _ _ _
theorem ownI_row {w : World} {base g cap : Nat} {l : List Int} {F : Nat → Value} (h : w.rowIs g 3 cap F) (hF : ∀ j, j < l.length → F j = .int .i64 (l.getD j 0)) (hl : l.length ≤ cap) (hc : cap ≤ maxLen) (hb : base ≤ g) : OwnI w base (.slice (some ⟨g, 0, none⟩) l.length cap) l := by
  obtain ⟨c, h1, h2, h3⟩ := h
  refine ⟨by simp, .inr ⟨g, cap, c, rfl, hb, h1, hl, hc, by omega, ?_⟩⟩
  apply List.ext_getElem?
  intro j
  rw [List.getElem?_take]
  by_cases hj : j < l.length * 1
  · rw [if_pos hj]
    have e1 := h3 j (by omega)
    rw [hF j (by omega)] at e1
    simp only [Array.getElem?_toList, e1, List.getElem?_map, List.getElem?_range hj, Option.map_some]
  · rw [if_neg hj]
    simp [show l.length ≤ j by omega]
set_option maxRecDepth 20000 in
set_option maxHeartbeats 4000000 in
theorem penc_any {w : World} {d : VD} {bo po ao : Option Addr} {cb cp n ca : Nat} {X : Nat → Int} (hb : RdA w bo 1 d.nb cb (fun i => .int .u8 (d.B i))) (hp : RdA w po 2 d.np cp (tcs d.P d.Q)) (hB : ∀ i, i < d.nb → 0 ≤ d.B i ∧ d.B i ≤ 255)
    (ha : RdA w ao 1 n ca (fun i => .int .u8 (X i))) (hX : ∀ i, i < n → 0 ≤ X i ∧ X i ≤ 255) (hn : n ≤ 1048576) (x : Int) (l : List Int) (hx : d.encOut X n x l) :
    Calls Try.prog 7 #[.agg #[.slice bo d.nb cb, .slice po d.np cp], .slice ao n ca] w fun e w' => ∃ v, e = .returned (.tuple #[v, .int .i64 x]) ∧ OwnI w' w.heap.size v l ∧ Below w.heap.size w w' := by
  have hf0 := fresh_alloc w (.cells #[.slice bo d.nb cb, .slice po d.np cp] 25)
  have r0 := row2_new w 25 (.slice bo d.nb cb) (.slice po d.np cp)
  have hS1 : (w.alloc (.cells #[.slice bo d.nb cb, .slice po d.np cp] 25)).heap.size = w.heap.size + 1 := by simp
  have HX := hidd hx
  have HXb := hidd hX
  have HB := hidd hB
  clear hx hX hB
  by_cases hR : d.Right
  · have HR := hidd hR
    obtain ⟨z1, z2, z3⟩ := hR.cnt
    clear hR
    go_enter Try.func7, Try.ntmps7
    go_wp2_with fail
    generalize w.alloc (.cells #[.slice bo d.nb cb, .slice po d.np cp] 25) = w1 at *
    refine (pcheck_any (hb.fresh hf0) (hp.fresh hf0) 0 (.inl ⟨HR.out, rfl⟩)).mono ?_
    rintro e w2 ⟨rfl, hf2⟩
    have hF2 := fresh_trans hf0 hf2
    obtain ⟨y0, y1⟩ := row2 (r0.of_block (hf2.block _ r0.lt))
    go_wp2_with fail
    refine (baset_any (hb.fresh hF2) (hp.fresh hF2) HR.out HB.out).mono ?_
    rintro e w3 ⟨arr, rfl, hs3, harr, hf3⟩
    have HA := hidd harr
    have hF3 := fresh_trans hF2 hf3
    clear y0 y1 harr
    go_wp2_with fail
    refine (byb_any (d := d) (ha.fresh hF3) HXb.out hn hs3 HA.out).mono ?_
    rintro e w4 ⟨h4, hf4⟩
    have hF4 := fresh_trans hF3 hf4
    have hf14 := fresh_trans (fresh_trans hf2 hf3) hf4
    have r4 := r0.of_block (hf14.block _ r0.lt)
    have hz3 : w.heap.size + 1 ≤ w3.heap.size := by rw [← hS1]; exact Nat.le_trans hf2.size hf3.size
    clear r0 hf2 hf3 hf4 hF2 hF3 hf14
    rcases h4 with ⟨hbad, rfl⟩ | ⟨hok, g, F0, rfl, hg, hrow, hF0⟩
    · obtain ⟨rfl, rfl⟩ : x = 51 ∧ l = [] := by
        rcases HX.out with ⟨h, _⟩ | ⟨_, _, e1, e2⟩ | ⟨_, h, _⟩
        · exact absurd HR.out h
        · exact ⟨e1, e2⟩
        · obtain ⟨i, hi, e⟩ := hbad
          exact absurd e (h i hi)
      clear hbad
      go_wp2
      go_ret2
      exact ⟨_, rfl, ownI_nil _ _, hF4⟩
    · obtain ⟨rfl, rfl⟩ : x = 0 ∧ l = d.encL (d.first X n) d.np := by
        rcases HX.out with ⟨h, _⟩ | ⟨_, ⟨i, hi, h⟩, _⟩ | ⟨_, _, e1, e2⟩
        · exact absurd HR.out h
        · exact absurd h (hok i hi)
        · exact ⟨e1, e2⟩
      have HL0 := hidd (d.first_len X n)
      have HF0 : Hid (∀ j, j < (d.encL (d.first X n) 0).length → F0 j = .int .i64 ((d.encL (d.first X n) 0).getD j 0)) := fun j hj => by
        have hj' : j < n := by simpa [VD.encL, VD.first] using hj
        rw [hF0 j hj']; show _ = Value.int .i64 ((d.first X n).getD j 0); rw [d.first_at X n hj']
      have EL : (d.encL (d.first X n) 0).length = n := d.first_len X n
      clear HX hok hF0
      obtain ⟨y0, y1⟩ := row2 r4
      generalize hLe : d.first X n = L at *
      have HLe := hidd hLe
      clear hLe
      go_wp2
      clear y0 y1
      go_loopw [7, 29] (fun v iv wr => ∃ (k : Nat) (F : Nat → Value), k ≤ d.np ∧ iv = .int .i64 k ∧ v = .slice (some ⟨g, 0, none⟩) (d.encL L k).length n ∧ wr.rowIs g 3 n F ∧ Hid (∀ j, j < (d.encL L k).length → F j = .int .i64 ((d.encL L k).getD j 0)) ∧ wr.rowIs w.heap.size 25 2 (two (.slice bo d.nb cb) (.slice po d.np cp)) ∧ Below w.heap.size w wr) (fun _ iv _ => d.np - (intOf iv).toNat)
      case atStart => exact ⟨0, F0, by omega, rfl, by rw [EL], hrow, HF0.out, r4, hF4⟩
      case round =>
        clear hrow HF0 r4 hF4
        obtain ⟨k, F, hk, rfl, rfl, hrow, HF, r4, hf⟩ := hrel
        obtain ⟨y0, y1⟩ := row2 r4
        have hll : (d.encL L k).length ≤ n := by rw [← HL0.out]; exact d.encL_len L k
        by_cases hlt : k < d.np
        · obtain ⟨b1, o1, rfl, h1⟩ := (hp.fresh hf).two (by omega)
          obtain ⟨c1, c2⟩ := h1 k hlt
          clear h1
          have i1 : (0 : Int) ≤ (k : Int) := Int.natCast_nonneg _
          have i2 : (k : Int) < (d.np : Int) := by omega
          have fA := fresh_alloc wr (.cells #[.int .i64 (d.P k), .int .i64 (d.Q k)] 48)
          have y0' := fresh_cell fA y0
          have hj := hidd (join_any (d.P k) (d.Q k) (1 + (d.nb : Int) + (k : Int)) (hrow.alloc (.cells #[.int .i64 (d.P k), .int .i64 (d.Q k)] 48)) HF.out hll (by omega))
          go_wp2_with fail
          refine hj.out.mono ?_
          rintro e w6 ⟨F6, rfl, hrow6, hF6, hf6⟩
          have hgw : w.heap.size < g := by omega
          have r6 := (r4.alloc (.cells #[.int .i64 (d.P k), .int .i64 (d.Q k)] 48)).of_block (hf6.block _ hgw)
          have hfw : Below w.heap.size w w6 := (fresh_trans hf fA).trans (hf6.mono (by omega))
          have HF6 := hidd hF6
          clear hj c1 c2 y0 y1 y0' fA hF6 hf6 r4 hf hrow HF
          go_wp2
          go_roundw
          case rel => exact ⟨k + 1, F6, by omega, by go_num, rfl, hrow6, HF6.out, r6, hfw⟩
          case measure => simp [intOf]; omega
        · obtain rfl : k = d.np := by omega
          have HO := hidd (ownI_row (base := w.heap.size) hrow HF.out hll (by unfold maxLen; omega) (by omega))
          go_wp2
          go_ret2
          exact ⟨_, rfl, by rw [HLe.out]; exact HO.out, hf⟩
  · have HR := hidd hR
    obtain ⟨rfl, rfl⟩ : x = 50 ∧ l = [] := by
      rcases HX.out with ⟨_, e1, e2⟩ | ⟨h, _⟩ | ⟨h, _⟩
      · exact ⟨e1, e2⟩
      · exact absurd h hR
      · exact absurd h hR
    clear hR
    go_enter Try.func7, Try.ntmps7
    go_wp2_with fail
    refine (pcheck_any (hb.fresh hf0) (hp.fresh hf0) 50 (.inr ⟨HR.out, rfl⟩)).mono ?_
    rintro e w2 ⟨rfl, hf2⟩
    have hF := fresh_trans hf0 hf2
    go_wp2
    go_ret2
    exact ⟨_, rfl, ownI_nil _ _, hF⟩
end Go.Proofs.Yteiocgciblogdab
