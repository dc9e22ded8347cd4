import Derived.Test.YtbpldnlafilbbaaNgW
import Derived.Test.YtbpldnlafilbbaaNgRa
namespace Go.Proofs.Ytbpldnlafilbbaa
open Go.RowKit
/-! The reference's Places. -/
theorem RdA.cutR {w : World} {b off n cap : Nat} {cs : Nat → Value} (h : RdA w (some ⟨b, off, none⟩) 1 n cap cs) {lo m : Nat} (hh : lo + m ≤ n) : RdA w (some ⟨b, off + lo, none⟩) 1 m (cap - lo) (fun j => cs (lo + j)) := by
  refine ⟨by have := h.le; omega, by have := h.top; omega, fun hm => ⟨b, off + lo, rfl, fun j hj => ?_⟩⟩
  obtain ⟨b', o', e, hc⟩ := h.at_ (by omega)
  cases e
  rw [Nat.add_assoc]
  exact hc _ (by omega)
theorem eqInts_valR {w : World} {ao bo : Option Addr} {n ca cb : Nat} {f g : Nat → Int} (ha : RdA w ao 1 n ca (fun i => .int .i64 (f i))) (hb : RdA w bo 1 n cb (fun i => .int .i64 (g i))) {r : Bool} (hr : r = true ↔ ∀ i, i < n → f i = g i) :
    Calls Try.prog 19 #[.slice ao n ca, .slice bo n cb] w fun e w' => e = .returned (.bool r) ∧ Below w.heap.size w w' := by
  refine (eqInts_any ha hb).mono ?_
  rintro e w' ⟨⟨r', rfl, hr'⟩, h⟩
  have : r' = r := by
    have h2 : r' = true ↔ r = true := by rw [hr', hr]; exact ⟨fun h => h.2, fun h => ⟨rfl, h⟩⟩
    cases r <;> cases r' <;> simp_all
  rw [this]
  exact ⟨rfl, h⟩
def PqR (f : Nat → Int) (e n q : Nat) : Prop := 1 ≤ e ∧ e ≤ q ∧ Sm f q e n
theorem plL_dwnR {f : Nat → Int} {k n : Nat} (hk : k ≤ 4) : plL f k n = dwn (PqR f (endL f k n) n) (n - 1) := by
  have hle := (endL_le f k n).2
  unfold plL
  by_cases e : endL f k n = 0
  · rw [if_pos e]
    have : ∀ m, dwn (PqR f (endL f k n) n) m = [] := by
      intro m
      induction m with
      | zero => rfl
      | succ m ih => rw [dwn_no (fun h => by have := h.1; omega), ih]
    exact (this _).symm
  · rw [if_neg e]
    obtain ⟨i, hi⟩ : ∃ i, endL f k n = i + 1 := ⟨endL f k n - 1, by omega⟩
    rw [hi, show i + 1 - 1 = i by omega]
    refine dwn_congr _ (fun q _ _ => ?_)
    rw [Hd_iff (by omega)]
    unfold PqR
    constructor
    · rintro ⟨h1, h2⟩; exact ⟨by omega, h1, h2⟩
    · rintro ⟨_, h1, h2⟩; exact ⟨h1, h2⟩
theorem dwn_low {f : Nat → Int} {l n : Nat} : ∀ m, m < l → dwn (PqR f l n) m = []
  | 0, _ => rfl
  | m + 1, h => by rw [dwn_no (fun k => by have := k.2.1; omega), dwn_low m (by omega)]
theorem Has_dwn {f : Nat → Int} {l n : Nat} (hl : 1 ≤ l) : Has f n l ↔ dwn (PqR f l n) (n - 1) ≠ [] := by
  constructor
  · rintro ⟨q, h1, h2, h3⟩ e
    have : q ∈ dwn (PqR f l n) (n - 1) := dwn_mem.2 ⟨by omega, by omega, hl, h1, h3⟩
    rw [e] at this
    cases this
  · intro h
    cases e : dwn (PqR f l n) (n - 1) with
    | nil => exact absurd e h
    | cons q r =>
      have := dwn_mem.1 (show q ∈ dwn (PqR f l n) (n - 1) by rw [e]; simp)
      exact ⟨q, this.2.2.2.1, by omega, this.2.2.2.2⟩
theorem qF_more (L : List Nat) (x : Nat) {j : Nat} (hj : j < L.length) : qF L j = qF (L ++ [x]) j := by
  unfold qF
  rw [List.getD_eq_getElem?_getD, List.getD_eq_getElem?_getD, List.getElem?_append_left hj]
theorem qF_last (L : List Nat) (x : Nat) : qF (L ++ [x]) L.length = .int .i64 (x : Int) := by
  unfold qF
  rw [List.getD_eq_getElem?_getD, List.getElem?_append_right (Nat.le_refl _)]
  simp
theorem Ri.cells {w : World} {Y : Nat} {S : Nat → Prop} {most n : Nat} {tx : Nat → Int} (h : Ri w Y S most n tx) : ∃ u c, w.cell? ⟨Y, 0, none⟩ = some (.int .i64 (most : Int)) ∧ w.cell? ⟨Y, 1, none⟩ = some (.slice u n c) ∧ RdA w u 1 n c (fun j => .int .i64 (tx j)) := by
  obtain ⟨tv, h1, h2, h3⟩ := h.ex
  obtain ⟨u, c, rfl, hr⟩ := h2.rd
  exact ⟨u, c, h1.cell (i := 0) (by omega), h1.cell (i := 1) (by omega), hr⟩
set_option maxRecDepth 20000 in
set_option maxHeartbeats 1600000 in
theorem rplaces_nil (w : World) : Calls Try.prog 26 #[.pointer none] w fun e w' => e = .returned (.slice none 0 0) ∧ w' = w := by
  go_enter Try.func26, Try.ntmps26
  go_wp2
  go_ret
  exact ⟨rfl, rfl⟩
set_option maxRecDepth 20000 in
set_option maxHeartbeats 3200000 in
theorem rplaces_any {w : World} {Y : Nat} {S : Nat → Prop} {most n : Nat} {tx : Nat → Int} (h : Ri w Y S most n tx) (hm : 1 ≤ most ∧ most ≤ 4) (hn : n * 8 ≤ 140737488351232) :
    Calls Try.prog 26 #[.pointer (some ⟨Y, 0, none⟩)] w fun e w' => ∃ u c, e = .returned (.slice u (plL tx most n).length c) ∧ Own w' w.heap.size 3 1 (.slice u (plL tx most n).length c) (plL tx most n).length (qF (plL tx most n)) ∧ Below w.heap.size w w' := by
  obtain ⟨tu, tc, c0, c1, hrd⟩ := h.cells
  have HRD := hidd hrd
  have HCY : Hid (∀ wr, Below w.heap.size w wr → wr.cell? ⟨Y, 1, none⟩ = some (.slice tu n tc)) := fun wr hf => fresh_cell hf c1
  have hle := hrd.le
  have htop := hrd.top
  unfold maxLen at htop
  clear h hrd
  go_enter Try.func26, Try.ntmps26
  go_wp2
  go_loopw [4] (fun vl wr => ∃ l : Nat, l ≤ most ∧ vl = .int .i64 l ∧ Hid (∀ l', l < l' → l' ≤ most → ¬ Has tx n l') ∧ Hid (Below w.heap.size w wr)) (fun vl _ => (intOf vl).toNat)
  case atStart => exact ⟨most, by omega, rfl, fun l' h1 h2 => absurd h1 (by omega), Below.refl _ _⟩
  case round =>
    obtain ⟨l, hl, rfl, HNO, HB⟩ := hrel
    by_cases hl0 : 0 < l
    · have d1 : decide ((0 : Int) < (l : Int)) = true := decide_eq_true (by omega)
      have d1' : decide (0 < l) = true := decide_eq_true hl0
      have e1 : IntKind.i64.wrap ((n : Int) - 1) = (n : Int) - 1 := by rw [IntKind.wrap_i64]; omega
      go_wp2
      go_loopw [5, 6] (fun vo vq wr => ∃ q : Nat, q ≤ n ∧ vq = .int .i64 ((q : Int) - 1) ∧ (∃ u c O, vo = .slice u O.length c ∧ O.length + q ≤ n ∧ Hid (Own wr w.heap.size 3 1 (.slice u O.length c) O.length (qF O)) ∧ Hid (dwn (PqR tx l n) (n - 1) = O ++ dwn (PqR tx l n) (q - 1))) ∧ Hid (Below w.heap.size w wr)) (fun _ vq _ => ((intOf vq) + 1).toNat)
      case atStart => exact ⟨n, by omega, rfl, ⟨none, 0, [], rfl, by simp, own_nil _ _ _ _ _, rfl⟩, HB⟩
      case round =>
        obtain ⟨q, hq, rfl, ⟨u, c, O, rfl, hOq, HO, HD⟩, HBq⟩ := hrel
        have hsz := HBq.out.size
        by_cases hlq : l < q
        · obtain ⟨x, hx⟩ : ∃ x, q = x + 1 := ⟨q - 1, by omega⟩
          subst hx
          rw [show (((x + 1 : Nat) : Int) - 1) = (x : Int) by omega]
          have d2 : decide ((l : Int) ≤ (x : Int)) = true := decide_eq_true (by omega)
          have c1 := later_cell (HCY.out wr HBq.out)
          obtain ⟨b, o, hu, _⟩ := HRD.out.one (by omega)
          subst hu
          have g1 : IntKind.i64.wrap ((x : Int) - (l : Int)) = (x : Int) - (l : Int) := wrap_small _ (by omega) (by omega)
          have g2 : IntKind.i64.wrap ((n : Int) - (l : Int)) = (n : Int) - (l : Int) := wrap_small _ (by omega) (by omega)
          have g3 : (0 : Int) ≤ (x : Int) - (l : Int) := by omega
          have g4 : (x : Int) - (l : Int) ≤ (x : Int) := by omega
          have g5 : (x : Int) ≤ (tc : Int) := by omega
          have g6 : ((x : Int) - (l : Int)).toNat = x - l := by omega
          have g7 : x - (x - l) = l := by omega
          have g8 : (0 : Int) ≤ (n : Int) - (l : Int) := by omega
          have g9 : (n : Int) - (l : Int) ≤ (n : Int) := by omega
          have g10 : (n : Int) ≤ (tc : Int) := by omega
          have g11 : ((n : Int) - (l : Int)).toNat = n - l := by omega
          have g12 : n - (n - l) = l := by omega
          have g13 : ¬ tc = x - l := by omega
          have g14 : ¬ tc = n - l := by omega
          have ne := later_some wr
          have e2 : IntKind.i64.wrap ((x : Int) - 1) = (x : Int) - 1 := by rw [IntKind.wrap_i64]; omega
          by_cases hs : Sm tx x l n
          · have HQ : Hid (∀ z : Later wr, Calls Try.prog 19 #[.slice (some ⟨b, o + (x - l), none⟩) l (tc - (x - l)), .slice (some ⟨b, o + (n - l), none⟩) l (tc - (n - l))] z.val fun e w' => e = .returned (.bool true) ∧ Below z.val.heap.size z.val w') := fun z => eqInts_valR (f := fun j => tx (x - l + j)) (g := fun j => tx (n - l + j)) (((HRD.out.fresh HBq.out).fresh z.fresh).cutR (lo := x - l) (m := l) (by omega)) (((HRD.out.fresh HBq.out).fresh z.fresh).cutR (lo := n - l) (m := l) (by omega)) ⟨fun _ => hs, fun _ => rfl⟩
            have HDN : Hid (dwn (PqR tx l n) (n - 1) = (O ++ [x]) ++ dwn (PqR tx l n) (x - 1)) := by
              have := HD.out
              obtain ⟨y, hy⟩ : ∃ y, x = y + 1 := ⟨x - 1, by omega⟩
              rw [hy, show y + 1 + 1 - 1 = y + 1 by omega, dwn_yes (by rw [← hy]; exact ⟨hl0, by omega, hs⟩)] at this
              rw [hy, show y + 1 - 1 = y by omega]
              show _ = _
              rw [this]
              simp
            have HON : Hid (((O ++ [x]).length = O.length + 1) ∧ ∀ (w1 : World), Own w1 w.heap.size 3 1 (.slice u O.length c) O.length (qF O) → Own w1 w.heap.size 3 1 (.slice u O.length c) O.length (qF (O ++ [x]))) := ⟨by simp, fun w1 h => h.congr (fun j hj => qF_more O x (by omega))⟩
            have HX : Hid (∀ (w0 : World) (t : TypeId), (w0.alloc (.cells #[.int .i64 (x : Int)] t)).cell? ⟨w0.heap.size, 0, none⟩ = some (qF (O ++ [x]) O.length)) := fun w0 t => by rw [qF_last, new_cell]
            have HONE : Hid ((qF (O ++ [x]) O.length).oneCell' = true) := by show _ = _; unfold qF; rfl
            clear hs
            go_wp2
            refine wp_region_later (by kernel_rfl) (by kernel_rfl) ?_
            repeat (go_big_quiet_step (fail))
            go_big_quiet_step (exact later_of (HQ.out _))
            repeat (go_big_quiet_step (fail))
            refine wpQuiet_nil ?_
            rintro _ ⟨z, rfl⟩
            have HZ := hidd (HBq.out.trans (z.fresh.mono HBq.out.size))
            have HO2 := hidd (HON.out.2 _ (HO.out.kept z.fresh))
            have hsz2 := HZ.out.size
            generalize z.val = w5 at *
            clear ne c1 HQ
            go_wp2_with (at_builtin; refine wpList_app1 _ rfl _ _ 22 rfl w.heap.size 3 (.int .i64 0) 8 Try.underlying22 infoI rfl _ O.length (qF (O ++ [x])) rfl (HO2.out.kept (fresh_alloc _ _)) _ 1 rfl (HX.out _ _) HONE.out (by omega) (by omega) (by simp; omega) ?_)
            intro v' w6 hown' happ
            have HF6 := hidd (happ.below (HZ.out.alloc hsz2 _) (HO2.out.kept (fresh_alloc _ _)) (Nat.le_refl _) (by simp; omega))
            obtain ⟨u6, c6, rfl, _⟩ := hown'.rd
            have HFI : Hid (∃ u c O', Value.slice u6 (O.length + 1) c6 = .slice u O'.length c ∧ O'.length + x ≤ n ∧ Hid (Own w6 w.heap.size 3 1 (.slice u O'.length c) O'.length (qF O')) ∧ Hid (dwn (PqR tx l n) (n - 1) = O' ++ dwn (PqR tx l n) (x - 1))) := ⟨u6, c6, O ++ [x], by rw [HON.out.1], by rw [HON.out.1]; omega, by rw [HON.out.1]; exact hown', HDN⟩
            clear happ hown' HO2 HX HONE
            go_wp2
            go_roundw
            case rel => exact ⟨x, by omega, rfl, HFI.out, HF6⟩
            case measure => simp [intOf]
          · have HQ : Hid (∀ z : Later wr, Calls Try.prog 19 #[.slice (some ⟨b, o + (x - l), none⟩) l (tc - (x - l)), .slice (some ⟨b, o + (n - l), none⟩) l (tc - (n - l))] z.val fun e w' => e = .returned (.bool false) ∧ Below z.val.heap.size z.val w') := fun z => eqInts_valR (f := fun j => tx (x - l + j)) (g := fun j => tx (n - l + j)) (((HRD.out.fresh HBq.out).fresh z.fresh).cutR (lo := x - l) (m := l) (by omega)) (((HRD.out.fresh HBq.out).fresh z.fresh).cutR (lo := n - l) (m := l) (by omega)) ⟨fun h => absurd h (by simp), fun h => absurd h hs⟩
            have HDN : Hid (dwn (PqR tx l n) (n - 1) = O ++ dwn (PqR tx l n) (x - 1)) := by
              have := HD.out
              obtain ⟨y, hy⟩ : ∃ y, x = y + 1 := ⟨x - 1, by omega⟩
              rw [hy, show y + 1 + 1 - 1 = y + 1 by omega, dwn_no (by rw [← hy]; exact fun h => hs h.2.2)] at this
              rw [hy, show y + 1 - 1 = y by omega]
              exact this
            clear hs
            go_wp2
            refine wp_region_later (by kernel_rfl) (by kernel_rfl) ?_
            repeat (go_big_quiet_step (fail))
            go_big_quiet_step (exact later_of (HQ.out _))
            repeat (go_big_quiet_step (fail))
            refine wpQuiet_nil ?_
            rintro _ ⟨z, rfl⟩
            have HZ := hidd (HBq.out.trans (z.fresh.mono HBq.out.size))
            have HO2 := hidd (HO.out.kept z.fresh)
            go_wp2
            go_roundw
            case rel => exact ⟨x, by omega, rfl, ⟨u, c, O, rfl, by omega, HO2, HDN⟩, HZ⟩
            case measure => simp [intOf]
        · have d2 : decide ((l : Int) ≤ (q : Int) - 1) = false := decide_eq_false (by omega)
          have HOD : Hid (O = dwn (PqR tx l n) (n - 1)) := by
            have := HD.out
            rw [dwn_low (q - 1) (by omega), List.append_nil] at this
            exact this.symm
          by_cases hO : 0 < O.length
          · have d3 : decide ((0 : Int) < (O.length : Int)) = true := decide_eq_true (by omega)
            have HPL : Hid (O = plL tx most n) := by
              have hh : Has tx n l := (Has_dwn (by omega)).2 (by rw [← HOD.out]; intro e; rw [e] at hO; simp at hO)
              have he : endL tx most n = l := endL_eq hm.2 hl (fun _ => hh) HNO.out
              show O = _
              rw [plL_dwnR hm.2, he]
              exact HOD.out
            go_wp2
            go_ret
            rw [← HPL.out]
            exact ⟨u, c, rfl, HO.out, HBq.out⟩
          · have d3 : decide ((0 : Int) < (O.length : Int)) = false := decide_eq_false (by omega)
            have hO0 : O.length = 0 := by omega
            have HN2 : Hid (∀ l', l - 1 < l' → l' ≤ most → ¬ Has tx n l') := fun l' h1 h2 => by
              by_cases e : l' = l
              · rw [e, Has_dwn (by omega), ← HOD.out]
                intro h3
                exact h3 (List.length_eq_zero_iff.1 hO0)
              · exact HNO.out l' (by omega) h2
            have e3 : IntKind.i64.wrap ((l : Int) - 1) = ((l - 1 : Nat) : Int) := by rw [IntKind.wrap_i64]; omega
            go_wp2
            go_roundw
            case rel => exact ⟨l - 1, by omega, rfl, HN2, HBq⟩
            case measure => simp [intOf]; omega
    · have d1 : decide ((0 : Int) < (l : Int)) = false := decide_eq_false (by omega)
      have d1' : decide (0 < l) = false := decide_eq_false hl0
      have HPL : Hid (plL tx most n = []) := by
        show _ = _
        rw [plL_nil hm.2]
        exact endL_eq hm.2 (by omega) (fun h => absurd h (by omega)) (fun l' h1 h2 => HNO.out l' (by omega) h2)
      go_wp2
      go_ret
      rw [HPL.out]
      exact ⟨none, 0, rfl, own_nil _ _ _ _ _, HB.out⟩
end Go.Proofs.Ytbpldnlafilbbaa
