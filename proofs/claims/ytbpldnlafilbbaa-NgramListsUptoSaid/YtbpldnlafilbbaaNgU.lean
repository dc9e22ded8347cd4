import Derived.Test.YtbpldnlafilbbaaNgT
namespace Go.Proofs.Ytbpldnlafilbbaa
open Go.RowKit
/-! NgramCuts. -/
theorem dwn_congr {P Q : Nat → Prop} : ∀ n, (∀ q, 1 ≤ q → q ≤ n → (P q ↔ Q q)) → dwn P n = dwn Q n
  | 0, _ => rfl
  | n + 1, h => by
    have ih := dwn_congr n (fun q h1 h2 => h q h1 (by omega))
    by_cases e : P (n + 1)
    · rw [dwn_yes e, dwn_yes ((h _ (by omega) (Nat.le_refl _)).1 e), ih]
    · rw [dwn_no e, dwn_no (fun k => e ((h _ (by omega) (Nat.le_refl _)).2 k)), ih]
theorem erL_congr {tx ty : Nat → Int} {n : Nat} (h : ∀ j, j < n → tx j = ty j) : ∀ l, l ≤ n → erL tx n l = erL ty n l
  | 0, _ => rfl
  | l + 1, hl => by
    have ih := erL_congr h l (by omega)
    unfold erL
    rw [ear_congr h (by omega), ih]
theorem endL_congr {tx ty : Nat → Int} {n : Nat} (h : ∀ j, j < n → tx j = ty j) (most : Nat) : endL tx most n = endL ty most n := erL_congr h _ (Nat.min_le_left _ _)
theorem plL_congr {tx ty : Nat → Int} {n : Nat} (h : ∀ j, j < n → tx j = ty j) (most : Nat) : plL tx most n = plL ty most n := by
  have hl := (endL_le ty most n).1
  unfold plL
  rw [endL_congr h most]
  split
  · rfl
  · rw [rn_congr hl h]
    exact dwn_congr _ (fun q _ h2 => Hd_congr h _ _ (by omega))
theorem chR_congr (R : List (Int × Int)) {t s : Nat → Int} : ∀ m, (∀ j, j < m → t j = s j) → chR R t m = chR R s m
  | 0, _ => rfl
  | m + 1, h => by
    unfold chR
    rw [chR_congr R m (fun j hj => h j (by omega)), h m (by omega)]
theorem prR_congr {tx ty : Nat → Int} {n : Nat} (h : ∀ j, j < n → tx j = ty j) (d : Nat) (L : List Nat) : prR tx n d L = prR ty n d L := by
  have key : ∀ (L : List Nat) (R : List (Int × Int)), L.foldl (fun R q => chR R (fun j => tx (q + j)) (cnN n d R q)) R = L.foldl (fun R q => chR R (fun j => ty (q + j)) (cnN n d R q)) R := by
    intro L
    induction L with
    | nil => exact fun R => rfl
    | cons q r ih =>
      intro R
      rw [List.foldl_cons, List.foldl_cons, chR_congr R (s := fun j => ty (q + j)) _ (fun j hj => h _ (by unfold cnN at hj; omega))]
      exact ih _
  exact key L []
theorem prO_congr {tx ty : Nat → Int} {n : Nat} (h : ∀ j, j < n → tx j = ty j) (most : Nat) (ways deep : Int) : prO tx most n ways deep = prO ty most n ways deep := by
  unfold prO
  rw [plL_congr h most, prR_congr h]
theorem Idx.under {w w' : World} {X : Nat} {S : Nat → Prop} {most n : Nat} {tx : Nat → Int} {A : Nat → Nat} (h : Idx w X S most n tx A) {base : Nat} (f : Below base w w') (hS : ∀ b, S b → b < base) : Idx w' X S most n tx A :=
  h.chg (T := fun b => base ≤ b) ⟨f.mono (Nat.zero_le _), fun b _ hT => f.block b (by omega)⟩ (fun b hb hT => by have := hS b hb; omega)
theorem rd_lit1 (w : World) (t : TypeId) (x : Int) : RdA (w.alloc (.cells #[.int .i64 x] t)) (some ⟨w.heap.size, 0, none⟩) 1 1 1 (fun _ => .int .i64 x) := by
  refine ⟨by omega, by unfold maxLen; omega, fun _ => ⟨_, 0, rfl, fun j hj => ?_⟩⟩
  unfold World.cell?
  rw [World.alloc_heap_new]
  match j, hj with
  | 0, _ => rfl
theorem eqInts_same {w : World} {ao bo : Option Addr} {n ca cb : Nat} {L : List Nat} (ha : RdA w ao 1 n ca (qF L)) (hb : RdA w bo 1 n cb (qF L)) : Calls Try.prog 19 #[.slice ao n ca, .slice bo n cb] w fun e w' => e = .returned (.bool true) ∧ Below w.heap.size w w' := by
  refine (eqInts_any (f := fun i => ((L.getD i 0 : Nat) : Int)) (g := fun i => ((L.getD i 0 : Nat) : Int)) ha hb).mono ?_
  rintro e w' ⟨⟨r, rfl, hr⟩, h⟩
  rw [hr.2 ⟨rfl, fun _ _ => rfl⟩]
  exact ⟨rfl, h⟩
theorem rda_low {w : World} {ao : Option Addr} {n c : Nat} {cs : Nat → Value} (h : RdA w ao 1 n c cs) : ∀ b o, ao = some ⟨b, o, none⟩ → 0 < n → b < w.heap.size := fun b o e hn => by
  subst e
  obtain ⟨b', o', e', h1⟩ := h.one hn
  cases e'
  exact lt_of_cell (h1 0 hn)
/-- an index grown token by token, all of its blocks at or behind base -/
def Gr (base : Nat) (wB w : World) (Y k i : Nat) (f : Nat → Int) : Prop := ∃ S A, Idx w Y S k i f A ∧ (∀ b, S b → base ≤ b) ∧ Below base wB w
theorem Gr.step {base : Nat} {wB w w' : World} {Y k i : Nat} {f : Nat → Int} {S : Nat → Prop} {A : Nat → Nat} (hS : ∀ b, S b → base ≤ b) (hb : Below base wB w) (hB : base ≤ w.heap.size) {t : Nat → Int} {m : Nat} {ty : Nat → Int} (h : IdP w w' Y S k i (i + m) (apT f i t) A) (e : ∀ j, j < i + m → apT f i t j = ty j) : Gr base wB w' Y k (i + m) ty := by
  obtain ⟨S', A', h1, h2, h3, h4, _⟩ := h.ex
  exact ⟨S', A', h1.text e, fun b hb' => by rcases h4 b hb' with h | h; exact hS b h; omega, h2.below hb hB hS⟩
set_option maxRecDepth 20000 in
set_option maxHeartbeats 3200000 in
theorem cuts_law {w : World} (n ways deep : Int) (hw1 : -9223372036854775808 ≤ ways ∧ ways ≤ 9223372036854775807) (hd1 : -9223372036854775808 ≤ deep ∧ deep ≤ 9223372036854775807) {ao bo : Option Addr} {na nb ca cb : Nat} {fa fb : Nat → Int} (ha : RdA w ao 1 na ca (fun i => .int .i64 (fa i))) (hb : RdA w bo 1 nb cb (fun i => .int .i64 (fb i))) (hfa : ∀ i, i < na → fits (fa i)) (hfb : ∀ i, i < nb → fits (fb i)) (hn : (na + nb) * 8 ≤ 140737488351232) :
    Calls Try.prog 7 #[.int .i64 n, .slice ao na ca, .slice bo nb cb, .int .i64 ways, .int .i64 deep] w fun e w' => e = .returned (.bool true) ∧ Below w.heap.size w w' := by
  have hk := grN_le n
  have HG : Hid (∀ w : World, Calls Try.prog 11 #[.int .i64 n] w fun e w' => e = .returned (.int .i64 (grN n)) ∧ w' = w) := fun w => gram_any w n
  obtain ⟨k, hkk⟩ : ∃ k, k = grN n := ⟨_, rfl⟩
  rw [← hkk] at hk HG
  clear hkk
  have HA := hidd ha
  have HB := hidd hb
  have HFA := hidd hfa
  have HFB := hidd hfb
  have HW := hidd (works_any w)
  clear ha hb hfa hfb
  go_enter Try.func7, Try.ntmps7
  go_wp2_with (go_at_call 9; with_reducible refine HW.out.mono ?_; rintro e w1 ⟨rfl, hb1⟩)
  have HB1 := hidd hb1
  clear hb1 HW
  go_wp2_with (go_at_call 11; with_reducible refine (HG.out _).mono ?_; rintro e w9 ⟨rfl, h9⟩; rw [h9]; clear h9 w9)
  have HBX := hidd (begun_any hk (HA.out.fresh HB1.out) HFA.out (by omega))
  go_wp2_with (go_at_call 10; with_reducible refine HBX.out.mono ?_; rintro e w2 ⟨X, S, A, rfl, hbg⟩)
  have HX := hidd hbg.idx
  have HB2 := hidd (HB1.out.trans (hbg.low.mono HB1.out.size))
  have HSX := hidd hbg.idx.low
  have HSW : Hid (∀ b, S b → w.heap.size ≤ b) := fun b hb => by have := hbg.off b hb; have := HB1.out.size; omega
  clear hbg HBX HB1
  go_wp2_with (go_at_call 11; with_reducible refine (HG.out _).mono ?_; rintro e w9 ⟨rfl, h9⟩; rw [h9]; clear h9 w9)
  have HBY := hidd (begun_any (w := w2) (f := fa) hk (ao := none) (n := 0) (cap := 0) ⟨by omega, by unfold maxLen; omega, fun h => absurd h (by omega)⟩ (fun i hi => absurd hi (by omega)) (by omega))
  go_wp2_with (go_at_call 10; with_reducible refine HBY.out.mono ?_; rintro e w3 ⟨Y, SY, AY, rfl, hbg⟩)
  have H0 : Hid (Gr w2.heap.size w2 w3 Y k 0 fa) := ⟨SY, AY, hbg.idx, hbg.off, hbg.low⟩
  clear hbg HBY HG
  go_wp2
  go_loopw [14] (fun i wr => ∃ j : Nat, j ≤ na ∧ i = .int .i64 j ∧ Hid (Gr w2.heap.size w2 wr Y k j fa)) (fun i _ => na - (intOf i).toNat)
  case atStart => exact ⟨0, by omega, rfl, H0⟩
  case round =>
    obtain ⟨j, hj, rfl, HJ⟩ := hrel
    clear H0
    obtain ⟨S', A', hi', hs', hb'⟩ := HJ.out
    have HI' := hidd hi'
    have HS' := hidd hs'
    have HB' := hidd hb'
    have hbw := HB2.out.trans (hb'.mono HB2.out.size)
    clear HJ hi' hs' hb'
    by_cases hlt : j < na
    · obtain ⟨b1, o1, hao, h1⟩ := (HA.out.fresh hbw).one (by omega)
      subst hao
      have c1 := h1 j hlt
      have hle := HA.out.le
      have htop := HA.out.top
      unfold maxLen at htop
      have HAP := hidd (append_any (HI'.out.fresh (fresh_alloc wr (.cells #[.int .i64 (fa j)] 3))) (rd_lit1 wr 3 (fa j)) (fun b o e _ hs => by cases e; have := HI'.out.low _ hs; omega) (fun i _ => HFA.out j hlt) (by omega))
      clear h1 hbw
      go_wp2_with (go_at_call 14; with_reducible refine HAP.out.mono ?_; rintro e w4 ⟨rfl, hap⟩)
      have HGR : Hid (Gr w2.heap.size w2 w4 Y k (j + 1) fa) := Gr.step HS'.out (HB'.out.trans ((fresh_alloc wr _).mono HB'.out.size)) (by have := HB'.out.size; simp; omega) hap (fun i hi => by
        by_cases e : i < j
        · exact apT_lt _ _ e
        · obtain rfl : i = j := by omega
          have := apT_ge fa i (fun _ => fa i) 0
          simpa using this)
      clear hap HAP HI' HS' HB'
      go_wp2
      go_roundw
      case rel => exact ⟨j + 1, by omega, by go_num, HGR⟩
      case measure => simp [intOf]; omega
    · obtain rfl : j = na := by omega
      have HX' := hidd (HX.out.under HB'.out HSX.out)
      have HBW := hidd hbw
      have HDJ : Hid (∀ b, S b → ¬ S' b) := fun b h1 h2 => by have := HSX.out b h1; have := HS'.out b h2; omega
      have hszw := HB'.out.size
      have hsz0 := HB2.out.size
      have HAB := hidd (append_any HI'.out (HB.out.fresh hbw) (fun b o e h0 hs => by have := rda_low HB.out b o e h0; have := HS'.out b hs; omega) HFB.out (by omega))
      have hle := HA.out.le
      have htop := HA.out.top
      unfold maxLen at htop
      clear hbw HX HSX HB2
      go_wp2_with (go_at_call 14; with_reducible refine HAB.out.mono ?_; rintro e w4 ⟨rfl, S2, A2, hi4, hc4, _, hs4, _⟩)
      have HY4 := hidd hi4
      have HX4 := hidd (HX'.out.chg hc4 HDJ.out)
      have HS2 : Hid (∀ b, S2 b → w.heap.size ≤ b) := fun b hb => by rcases hs4 b hb with h | h; have := HS'.out b h; omega; omega
      have HD2 : Hid (∀ b, S b → ¬ S2 b) := fun b h1 h2 => by rcases hs4 b h2 with h | h; exact HDJ.out b h1 h; have := HX'.out.low b h1; omega
      have HB4 := hidd (hc4.below HBW.out (by omega) (fun b hb => by have := HS'.out b hb; omega))
      have HCT := hidd (cut_any hi4 (j : Int))
      clear hi4 hc4 hs4 HAB HX' HDJ HBW HS' HB' HI'
      go_wp2_with (go_at_call 18; with_reducible refine HCT.out.mono ?_; rintro e w5 ⟨rfl, hi5, hc5⟩)
      have HX5 := hidd (HX4.out.chg hc5 HD2.out)
      have HY5 : Hid (Idx w5 Y S2 k j fa A2) := by
        rw [show Nat.min (j + nb) (j : Int).toNat = j by show min _ _ = _; omega] at hi5
        exact hi5.text (fun i hi => apT_lt _ _ hi)
      have HB5 := hidd (hc5.below HB4.out HB4.out.size HS2.out)
      clear hi5 hc5 HCT HX4 HY4 HB4
      obtain ⟨L, HHL⟩ : ∃ L, Hid (L = pkQ 0 (plL fa k j)) := ⟨_, rfl⟩
      have HP1 := hidd (places_any HX5.out (by omega) 0)
      rw [← HHL.out] at HP1
      go_wp2_with (go_at_call 12; with_reducible refine HP1.out.mono ?_; rintro e w6 ⟨u1, c1, rfl, ho6, hb6⟩)
      have HX6 := hidd (HX5.out.fresh hb6)
      have HY6 := hidd (HY5.out.fresh hb6)
      have HB6 := hidd (HB5.out.trans (hb6.mono HB5.out.size))
      have HO6 := hidd ho6
      have HP2 := hidd (places_any HY6.out (by omega) 0)
      rw [← HHL.out] at HP2
      clear hb6 ho6 HP1 HX5 HY5 HB5
      go_wp2_with (go_at_call 12; with_reducible refine HP2.out.mono ?_; rintro e w7 ⟨u2, c2, rfl, ho7, hb7⟩)
      have HX7 := hidd (HX6.out.fresh hb7)
      have HY7 := hidd (HY6.out.fresh hb7)
      have HB7 := hidd (HB6.out.trans (hb7.mono HB6.out.size))
      have HEQ := hidd (eqInts_same (own_rda (HO6.out.kept hb7)) (own_rda ho7))
      clear hb7 ho7 HP2 HX6 HY6 HB6 HO6
      go_wp2_with (go_at_call 19; with_reducible refine HEQ.out.mono ?_; rintro e w8 ⟨rfl, hb8⟩)
      have HX8 := hidd (HX7.out.fresh hb8)
      have HY8 := hidd (HY7.out.fresh hb8)
      have HB8 := hidd (HB7.out.trans (hb8.mono HB7.out.size))
      obtain ⟨R, HHR⟩ : ∃ R, Hid (R = prO fa k j ways deep) := ⟨_, rfl⟩
      have HP1 := hidd (propose_any HX8.out (by omega) ways deep hw1 hd1)
      rw [← HHR.out] at HP1
      clear hb8 HEQ HX7 HY7 HB7
      go_wp2_with (go_at_call 13; with_reducible refine HP1.out.mono ?_; rintro e w6 ⟨v6, rfl, ho6, hb6⟩)
      obtain ⟨u3, c3, rfl, _⟩ := ho6.rd
      have HX6 := hidd (HX8.out.fresh hb6)
      have HY6 := hidd (HY8.out.fresh hb6)
      have HB6 := hidd (HB8.out.trans (hb6.mono HB8.out.size))
      have HO6 := hidd ho6
      have HP2 := hidd (propose_any HY6.out (by omega) ways deep hw1 hd1)
      rw [← HHR.out] at HP2
      clear hb6 ho6 HP1 HX8 HY8 HB8
      go_wp2_with (go_at_call 13; with_reducible refine HP2.out.mono ?_; rintro e w7 ⟨v7, rfl, ho7, hb7⟩)
      obtain ⟨u4, c4, rfl, _⟩ := ho7.rd
      have HX7 := hidd (HX6.out.fresh hb7)
      have HY7 := hidd (HY6.out.fresh hb7)
      have HB7 := hidd (HB6.out.trans (hb7.mono HB6.out.size))
      have HEQ := hidd (eqRaw_same (own_rda (HO6.out.kept hb7)) (own_rda ho7))
      clear hb7 ho7 HP2 HX6 HY6 HB6 HO6 HHR HHL
      go_wp2_with (go_at_call 20; with_reducible refine HEQ.out.mono ?_; rintro e w8 ⟨rfl, hb8⟩)
      have HX8 := hidd (HX7.out.fresh hb8)
      have HY8 := hidd (HY7.out.fresh hb8)
      have HB8 := hidd (HB7.out.trans (hb8.mono HB7.out.size))
      clear hb8 HEQ HX7 HY7 HB7
      have HSX : Hid (∀ b, S b → w.heap.size ≤ b) := HSW
      have HAB := hidd (append_any HX8.out (HB.out.fresh HB8.out) (fun b o e h0 hs => by have := rda_low HB.out b o e h0; have := HSX.out b hs; omega) HFB.out (by omega))
      go_wp2_with (go_at_call 14; with_reducible refine HAB.out.mono ?_; rintro e w9 ⟨rfl, S3, A3, hi9, hc9, _, hs9, _⟩)
      have HX9 := hidd hi9
      have HY9 := hidd (HY8.out.chg hc9 (fun b h1 h2 => HD2.out b h2 h1))
      have HD3 : Hid (∀ b, S3 b → ¬ S2 b) := fun b h1 h2 => by rcases hs9 b h1 with h | h; exact HD2.out b h h2; have := HY8.out.low b h2; omega
      have HB9 := hidd (hc9.below HB8.out HB8.out.size HSX.out)
      clear hi9 hc9 hs9 HAB HX8 HY8 HB8
      have HAB := hidd (append_any HY9.out (HB.out.fresh HB9.out) (fun b o e h0 hs => by have := rda_low HB.out b o e h0; have := HS2.out b hs; omega) HFB.out (by omega))
      go_wp2_with (go_at_call 14; with_reducible refine HAB.out.mono ?_; rintro e w10 ⟨rfl, S4, A4, hi10, hc10, _, hs10, _⟩)
      have HX10 := hidd (HX9.out.chg hc10 HD3.out)
      have HY10 := hidd hi10
      have HB10 := hidd (hc10.below HB9.out HB9.out.size HS2.out)
      clear hi10 hc10 hs10 HAB HX9 HY9 HB9
      obtain ⟨M, HHM⟩ : ∃ M, Hid (M = pkQ 0 (plL (apT fa j fb) k (j + nb))) := ⟨_, rfl⟩
      have HP1 := hidd (places_any HX10.out (by omega) 0)
      rw [← HHM.out] at HP1
      go_wp2_with (go_at_call 12; with_reducible refine HP1.out.mono ?_; rintro e w6 ⟨u5, c5, rfl, ho6, hb6⟩)
      have HX6 := hidd (HX10.out.fresh hb6)
      have HB6 := hidd (HB10.out.trans (hb6.mono HB10.out.size))
      have HY6 := hidd (HY10.out.fresh hb6)
      have HO6 := hidd ho6
      have HP2 := hidd (places_any HY6.out (by omega) 0)
      rw [← HHM.out] at HP2
      clear hb6 ho6 HP1 HX10 HY10
      go_wp2_with (go_at_call 12; with_reducible refine HP2.out.mono ?_; rintro e w7 ⟨u6, c6, rfl, ho7, hb7⟩)
      have HX7 := hidd (HX6.out.fresh hb7)
      have HB7 := hidd (HB6.out.trans (hb7.mono HB6.out.size))
      have HY7 := hidd (HY6.out.fresh hb7)
      have HEQ := hidd (eqInts_same (own_rda (HO6.out.kept hb7)) (own_rda ho7))
      clear hb7 ho7 HP2 HX6 HY6 HO6
      go_wp2_with (go_at_call 19; with_reducible refine HEQ.out.mono ?_; rintro e w8 ⟨rfl, hb8⟩)
      have HL1 := hidd (idx_len (HX7.out.fresh hb8))
      have HB8 := hidd (HB7.out.trans (hb8.mono HB7.out.size))
      have HL2 := hidd (idx_len (HY7.out.fresh hb8))
      clear hb8 HEQ HX7 HY7 HHM
      go_wp2_with (go_at_call 17; first | (with_reducible refine HL1.out.mono ?_; rintro e w9 ⟨rfl, h9⟩; rw [h9]; clear h9 w9) | (with_reducible refine HL2.out.mono ?_; rintro e w9 ⟨rfl, h9⟩; rw [h9]; clear h9 w9))
      go_ret
      exact ⟨rfl, HB8.out⟩
end Go.Proofs.Ytbpldnlafilbbaa
