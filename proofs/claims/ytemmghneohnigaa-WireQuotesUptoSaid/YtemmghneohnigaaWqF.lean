import Derived.Test.YtemmghneohnigaaWqE
import Derived.Laws.OwnMore
namespace Go.Proofs.Ytemmghneohnigaa
open Go.RowKit
/-! WireQuotes, the law. -/
theorem Own.put {w : World} {base : Nat} {e : TypeId} {sz g cap n : Nat} {cs : Nat → Value} (h : Own w base e sz (.slice (some ⟨g, 0, none⟩) n cap) n cs) (j : Nat) (x : Value) : Own (w.setCell ⟨g, j, none⟩ x) base e sz (.slice (some ⟨g, 0, none⟩) n cap) n (fun i => if i = j then x else cs i) := by
  have := (World.ownsRow.stored h j x).1
  unfold Own
  have e1 : (List.range (n * sz)).map (fun i => if i = j then x else cs i) = ((List.range (n * sz)).map cs).set j x := by
    refine List.ext_getElem? (fun i => ?_)
    rw [List.getElem?_set]
    by_cases hi : i < n * sz
    · by_cases e : j = i
      · subst e
        simp [hi]
      · rw [if_neg e]
        simp [hi]
        exact fun q => absurd q.symm e
    · simp [hi]
      omega
  rw [e1]
  exact this
theorem Own.at_ {w : World} {base : Nat} {e : TypeId} {sz n c : Nat} {u : Option Addr} {cs : Nat → Value} (h : Own w base e sz (.slice u n c) n cs) (hn : 0 < n) : ∃ g, u = some ⟨g, 0, none⟩ ∧ base ≤ g ∧ g < w.heap.size ∧ (∀ j, j < n * sz → w.cell? ⟨g, j, none⟩ = some (cs j)) ∧ (∀ j, w.frozen? ⟨g, j, none⟩ = false) := by
  obtain ⟨ao, cap, e1, hr⟩ := h.rd
  injection e1 with e2 _ e3
  subst e2 e3
  obtain ⟨b, off, rfl, hc⟩ := hr.at_ hn
  rcases h.2 with ⟨e4, _⟩ | ⟨g, cap', cur, e4, hb, hgg, _⟩
  · cases e4
  · injection e4 with e5 _ e6
    injection e5 with e5
    injection e5 with e7 e8
    subst e7 e8
    refine ⟨_, rfl, hb, (Array.getElem?_eq_some_iff.1 hgg).1, fun j hj => by simpa using hc j hj, fun j => by simp [World.frozen?, hgg]⟩
theorem mkB_lt {l : List Int} {j : Nat} (h : j < l.length) : mkB l j = byc l j := by unfold mkB byc; rw [if_pos h]
theorem mkB_ge {l : List Int} {j : Nat} (h : ¬ j < l.length) : mkB l j = .int .u8 77 := by unfold mkB; rw [if_neg h]
theorem xor1 {c : Int} (h0 : 0 ≤ c) (h1 : c ≤ 255) : ∃ x, bits .xor .u8 c 1 = x ∧ 0 ≤ x ∧ x ≤ 255 := by
  refine ⟨_, rfl, ?_⟩
  obtain ⟨k, rfl⟩ := Int.eq_ofNat_of_zero_le h0
  rw [show (1 : Int) = ((1 : Nat) : Int) from rfl, u8_xor_nat k 1 (by omega) (by omega)]
  have : k ^^^ 1 < 2 ^ 8 := Nat.xor_lt_two_pow (by omega) (by omega)
  omega
theorem RdA.toByc {w : World} {ao : Option Addr} {l : List Int} {n cap : Nat} {cs : Nat → Value} (h : RdA w ao 1 n cap cs) (hn : n = l.length) (e : ∀ j, j < n → cs j = byc l j) : RdA w ao 1 l.length cap (byc l) := by
  subst hn
  exact h.congr (fun j hj => e j (by omega))
set_option maxRecDepth 20000 in
set_option maxHeartbeats 4000000 in
theorem quotes_law {w : World} {ao : Option Addr} {l : List Int} {cap : Nat} (h : RdA w ao 1 l.length cap (byc l)) (hB : Byt l) (hl : l.length ≤ 35184372088000) :
    Calls Try.prog 3 #[.slice ao l.length cap] w fun e w' => e = .returned (.bool true) ∧ Below w.heap.size w w' := by
  obtain ⟨n, en⟩ : ∃ n, n = l.length := ⟨_, rfl⟩
  have EN := hidd en
  have HR := hidd h
  have HBY := hidd hB
  have hcp : cap ≤ 9223372036854775807 := by have := h.top; unfold maxLen at this; omega
  have hnc : n ≤ cap := by rw [en]; exact h.le
  have HC0 := hidd (copyB_any (w := w) (f := fun i => l.getD i 0) h (by omega))
  rw [← en] at hl HC0 ⊢
  clear h hB en
  have HMK : Hid (∀ k, mkB l (n + k) = .int .u8 77) := fun k => mkB_ge (by rw [← EN.out]; omega)
  go_enter Try.func3, Try.ntmps3
  go_upto_region 2 with (go_at_call 4; with_reducible refine (HC0.out).mono ?_; rintro e w1 ⟨v1, rfl, ho1, hf1⟩)
  have HO1 : Hid (Own w1 w.heap.size 5 1 v1 (n + 0) (mkB l)) := ho1.congr (fun j hj => (mkB_lt (by rw [← EN.out]; omega)).symm)
  have HF1 := hidd hf1
  clear ho1 hf1 HC0
  go_wp2
  go_loopw [3, 4] (fun v i wr => ∃ k : Nat, k ≤ 64 ∧ i = .int .i64 (k : Int) ∧ Hid (Own wr w.heap.size 5 1 v (n + k) (mkB l)) ∧ Hid (Below w.heap.size w wr)) (fun _ i _ => 64 - (intOf i).toNat)
  case atStart => exact ⟨0, Nat.zero_le _, by simp, HO1.out, HF1.out⟩
  case round =>
    clear HO1 HF1
    obtain ⟨k, hk, rfl, hO, hF⟩ := hrel
    have hz := hF.out.size
    by_cases hlt : k < 64
    · go_wp2_with (at_builtin; refine wpList_app1 _ rfl _ _ 22 rfl w.heap.size 5 (.int .u8 0) 1 Try.underlying22 infoB rfl _ (n + k) (mkB l) rfl (hO.out.kept (fresh_alloc _ _)) _ 1 rfl (by rw [HMK.out]; exact new_cell _ _ _) rfl (by omega) (by omega) (by simp; omega) ?_)
      intro v5 w5 ho5 ha5
      have HF5 := hidd (ha5.below (hF.out.alloc hz _) (hO.out.kept (fresh_alloc _ _)) (Nat.le_refl _) (by simp; omega))
      have HO5 := hidd ho5
      clear ha5 ho5 hO hF
      go_wp2
      go_roundw
      case rel => exact ⟨k + 1, by omega, by go_num, HO5.out, HF5.out⟩
      case measure => simp [intOf]; omega
    · obtain rfl : k = 64 := by omega
      rename World => wr
      obtain ⟨ai, ci, rfl, _⟩ := hO.out.rd
      obtain ⟨g, rfl, hg1, hg2, hgc, hgf⟩ := hO.out.at_ (by omega)
      have hri := hO.out.short (m := n) (by omega)
      have hci : n + 64 ≤ ci := by
        obtain ⟨_, _, e9, hr9⟩ := hO.out.rd
        cases e9
        exact hr9.le
      have hct : ci ≤ 9223372036854775807 := by have := hri.top; unfold maxLen at this; omega
      have HRI : Hid (∀ {wq : World}, Below wr.heap.size wr wq → RdA wq (some ⟨g, 0, none⟩) 1 l.length ci (byc l)) := fun f => (hri.fresh f).toByc EN.out (fun j hj => mkB_lt (by rw [← EN.out]; exact hj))
      have HGC := hidd hgc
      have HGF := hidd hgf
      clear hri hgc hgf
      have HQ := hidd (quote_any (HRI.out (Below.refl _ _)) HBY.out (by rw [← EN.out]; exact hl))
      rw [← EN.out] at HQ
      go_upto_region 7 with (go_at_call 5; with_reducible refine (HQ.out).mono ?_; rintro e w2 ⟨rfl, hf2⟩)
      have HE := hidd (eqBytes_same (w := w2) (f := fun i => l.getD i 0) (g := fun i => l.getD i 0) (HRI.out hf2) (HR.out.fresh (fresh_trans hF.out hf2)) (fun _ _ => rfl))
      rw [← EN.out] at HE
      go_upto_region 8 with (go_at_call 6; with_reducible refine (HE.out).mono ?_; rintro e w3 ⟨rfl, hf3⟩)
      have HF3 := hidd (fresh_trans hf2 hf3)
      clear hf2 hf3 HQ HE
      by_cases h0 : n = 0
      · have bz : decide ((0 : Int) < (n : Int)) = false := by simp; omega
        have HMC : Hid (∀ k, k < 64 → w3.cell? ⟨g, n + k, none⟩ = some (.int .u8 77)) := fun k hk => by rw [← HMK.out k]; exact fresh_cell HF3.out (HGC.out (n + k) (by omega))
        have HFA : Hid (Below w.heap.size w w3) := fresh_trans hF.out HF3.out
        have bz2 : decide (0 < n) = false := by simp; omega
        clear HGC HGF
        have H0 := hidd h0
        clear h0
        have HRQ := hidd (fun (wq : World) (f : Below w.heap.size w wq) => rquote_any (HR.out.fresh f) HBY.out (by rw [← EN.out]; exact hl))
        rw [← EN.out] at HRQ
        go_wp2
        go_loopw [6, 8] (fun b i wz => ∃ k : Nat, k ≤ 64 ∧ i = .int .i64 (k : Int) ∧ b = .bool true ∧ Hid (Below w3.heap.size w3 wz)) (fun _ i _ => 64 - (intOf i).toNat)
        case atStart => exact ⟨0, Nat.zero_le _, by simp, rfl, Below.refl _ _⟩
        case round =>
          obtain ⟨k, hk, rfl, rfl, hFz⟩ := hrel
          by_cases hlt : k < 64
          · obtain ⟨q, eq⟩ : ∃ q, q = n + k := ⟨_, rfl⟩
            have cz := fresh_cell hFz.out (HMC.out k hlt)
            rw [← eq] at cz
            have i1 : IntKind.i64.wrap ((n : Int) + (k : Int)) = (q : Int) := by rw [IntKind.wrap_i64]; omega
            have i2 : (q : Int) < (n : Int) + 64 := by omega
            have i3 : (0 : Int) ≤ (q : Int) := by omega
            have i4 : q < n + 64 := by omega
            clear eq
            go_wp2
            go_roundw
            case rel => exact ⟨k + 1, by omega, by go_num, by simp, hFz.out⟩
            case measure => simp [intOf]; omega
          · have HFW := hidd (HFA.out.trans (hFz.out.mono HFA.out.size))
            go_wp2_with (go_at_call 7; with_reducible refine (HRQ.out _ HFW.out).mono ?_; rintro e w8 ⟨rfl, hf8⟩)
            go_ret
            exact ⟨rfl, fresh_trans HFW.out hf8⟩
      · have bz : decide ((0 : Int) < (n : Int)) = true := by simp; omega
        have bz2 : decide (0 < n) = true := by simp; omega
        have hO3 := hO.out.kept HF3.out
        obtain ⟨g', eg, _, hg3, hgc3, hgf3⟩ := hO3.at_ (by omega)
        cases eg
        have c0 : w3.cell? ⟨g, 0, none⟩ = some (.int .u8 (l.getD 0 0)) := by rw [hgc3 0 (by omega), mkB_lt (by rw [← EN.out]; omega)]; rfl
        have f0 := hgf3 0
        have hb := byt_get HBY.out (i := 0) (by rw [← EN.out]; omega)
        obtain ⟨x, ex, hx0, hx1⟩ := xor1 hb.1 hb.2
        have HO4 := hidd (hO3.put 0 (.int .u8 x))
        have HFA : Hid (Below w.heap.size w (w3.setCell ⟨g, 0, none⟩ (.int .u8 x))) := (fresh_trans hF.out HF3.out).setCell hg1 _
        clear hgc3 hgf3 hO3 HGC HGF
        have HLN : Hid ((x :: l.tail).length = n) := by
          show _ = _
          rw [List.length_cons, List.length_tail, ← EN.out]; omega
        have HBX : Hid (Byt (x :: l.tail)) := fun y hy => by
          rcases List.mem_cons.1 hy with rfl | hy
          · exact ⟨hx0, hx1⟩
          · exact HBY.out y (List.mem_of_mem_tail hy)
        have HGX : Hid (∀ j, j < n → (if j = 0 then Value.int .u8 x else mkB l j) = byc (x :: l.tail) j) := fun j hj => by
          by_cases e : j = 0
          · subst e; rfl
          · rw [if_neg e, mkB_lt (by rw [← EN.out]; exact hj)]
            obtain ⟨i, rfl⟩ : ∃ i, j = i + 1 := ⟨j - 1, by omega⟩
            unfold byc
            cases l with
            | nil => rfl
            | cons a r => rfl
        generalize l.getD 0 0 = c at *
        go_upto_region 10 with fail
        generalize w3.setCell ⟨g, 0, none⟩ (.int .u8 x) = w4 at *
        have HMC : Hid (∀ k, k < 64 → w4.cell? ⟨g, n + k, none⟩ = some (.int .u8 77)) := fun k hk => by
          obtain ⟨g', eg, _, _, hgc4, _⟩ := HO4.out.at_ (by omega)
          cases eg
          rw [hgc4 (n + k) (by omega), if_neg (by omega), HMK.out]
        have HRX : Hid (∀ {wq : World}, Below w4.heap.size w4 wq → RdA wq (some ⟨g, 0, none⟩) 1 (x :: l.tail).length ci (byc (x :: l.tail))) := fun f => ((HO4.out.short (m := n) (by omega)).fresh f).toByc HLN.out.symm HGX.out
        have HQ := hidd (quote_any (HRX.out (Below.refl _ _)) HBX.out (by rw [HLN.out]; exact hl))
        rw [HLN.out] at HQ
        go_upto_region 11 with (go_at_call 5; with_reducible refine (HQ.out).mono ?_; rintro e w5 ⟨rfl, hf5⟩)
        have HC := hidd (copyB_any (w := w5) (f := fun i => (x :: l.tail).getD i 0) (HRX.out hf5) (by rw [HLN.out]; omega))
        rw [HLN.out] at HC
        have HRQ2 : Hid (∀ {wq : World} {u : Option Addr} {k : Nat}, RdA wq u 1 n k (fun j => .int .u8 ((x :: l.tail).getD j 0)) → Calls Try.prog 7 #[.slice u n k] wq fun e w' => e = .returned (.string (strOfNums (lit (x :: l.tail)))) ∧ Below wq.heap.size wq w') := fun {wq u k} hh => by
          have := rquote_any (w := wq) (ao := u) (l := x :: l.tail) (cap := k) (by rw [HLN.out]; exact hh) HBX.out (by rw [HLN.out]; exact hl)
          rwa [HLN.out] at this
        go_upto_region 12 with (first | (go_at_call 4; go_loud (with_reducible refine (HC.out).mono ?_); rintro e w6 ⟨v6, rfl, ho6, hf6⟩; obtain ⟨u6, k6, rfl, hr6⟩ := ho6.rd) | (go_at_call 7; with_reducible refine (HRQ2.out hr6).mono ?_; rintro e w7 ⟨rfl, hf7⟩))
        have HF47 := hidd (fresh_trans hf5 (fresh_trans hf6 hf7))
        have HMC7 : Hid (∀ k, k < 64 → w7.cell? ⟨g, n + k, none⟩ = some (.int .u8 77)) := fun k hk => fresh_cell HF47.out (HMC.out k hk)
        have HFA7 := hidd (HFA.out.trans (HF47.out.mono HFA.out.size))
        clear HMC HFA hf5 hf6 hf7 ho6 hr6 HC HQ HRQ2 HO4
        have HMC := HMC7
        have HFA := HFA7
        clear HMC7 HFA7
        have HRQ := hidd (fun (wq : World) (f : Below w.heap.size w wq) => rquote_any (HR.out.fresh f) HBY.out (by rw [← EN.out]; exact hl))
        rw [← EN.out] at HRQ
        go_wp2
        go_loopw [6, 8] (fun b i wz => ∃ k : Nat, k ≤ 64 ∧ i = .int .i64 (k : Int) ∧ b = .bool true ∧ Hid (Below w7.heap.size w7 wz)) (fun _ i _ => 64 - (intOf i).toNat)
        case atStart => exact ⟨0, Nat.zero_le _, by simp, rfl, Below.refl _ _⟩
        case round =>
          obtain ⟨k, hk, rfl, rfl, hFz⟩ := hrel
          by_cases hlt : k < 64
          · obtain ⟨q, eq⟩ : ∃ q, q = n + k := ⟨_, rfl⟩
            have cz := fresh_cell hFz.out (HMC.out k hlt)
            rw [← eq] at cz
            have i1 : IntKind.i64.wrap ((n : Int) + (k : Int)) = (q : Int) := by rw [IntKind.wrap_i64]; omega
            have i2 : (q : Int) < (n : Int) + 64 := by omega
            have i3 : (0 : Int) ≤ (q : Int) := by omega
            have i4 : q < n + 64 := by omega
            clear eq
            go_wp2
            go_roundw
            case rel => exact ⟨k + 1, by omega, by go_num, by simp, hFz.out⟩
            case measure => simp [intOf]; omega
          · have HFW := hidd (HFA.out.trans (hFz.out.mono HFA.out.size))
            go_wp2_with (go_at_call 7; with_reducible refine (HRQ.out _ HFW.out).mono ?_; rintro e w8 ⟨rfl, hf8⟩)
            go_ret
            exact ⟨rfl, fresh_trans HFW.out hf8⟩
end Go.Proofs.Ytemmghneohnigaa
