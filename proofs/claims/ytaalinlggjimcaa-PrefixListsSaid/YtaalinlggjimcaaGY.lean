import Derived.Test.YtaalinlggjimcaaGX
namespace Go.Proofs.Ytaalinlggjimcaa
open Go.RowKit
/-! A script; long; PrefixScripts. -/
theorem lgn_no {n : Nat} (w : World) (h : n ≤ 2147483647) : Calls Try.prog 15 #[.int .i64 n] w fun e w' => e = .returned (.bool false) ∧ w' = w := by
  have hd : decide ((2147483647 : Int) < (n : Int)) = false := by simp; omega
  go_enter Try.func15, Try.ntmps15
  go_wp2
  go_ret
  exact ⟨rfl, rfl⟩
theorem lgn_yes {n : Nat} (w : World) (h : 2147483647 < n) (_h2 : n ≤ 9223372036854775807) : Calls Try.prog 15 #[.int .i64 n] w fun e w' => e = .returned (.bool true) ∧ w' = w := by
  have hd : decide ((2147483647 : Int) < (n : Int)) = true := by simp; omega
  go_enter Try.func15, Try.ntmps15
  go_wp2
  go_ret
  exact ⟨rfl, rfl⟩
structure Sc where
  KD : Nat → Int
  WH : Nat → Int
  NN : Nat → Int
  TO : Nat → Option Addr
  TL : Nat → Nat
  TC : Nat → Nat
  T : Nat → Nat → Int
  BO : Nat → Option Addr
  BL : Nat → Nat
  BC : Nat → Nat
  G : Nat → Nat → Int
def opc (s : Sc) : Nat → Value := fun j => if j % 5 = 0 then .int .i64 (s.KD (j / 5)) else if j % 5 = 1 then .int .i64 (s.WH (j / 5)) else if j % 5 = 2 then .slice (s.TO (j / 5)) (s.TL (j / 5)) (s.TC (j / 5)) else if j % 5 = 3 then .slice (s.BO (j / 5)) (s.BL (j / 5)) (s.BC (j / 5)) else .int .i64 (s.NN (j / 5))
structure ScAt (w : World) (so : Option Addr) (n cap : Nat) (s : Sc) : Prop where
  rd : RdA w so 5 n cap (opc s)
  tk : ∀ i, i < n → RdA w (s.TO i) 1 (s.TL i) (s.TC i) (fun j => .int .i64 (s.T i j))
  bk : ∀ i, i < n → RdA w (s.BO i) 1 (s.BL i) (s.BC i) (fun j => .int .i64 (s.G i j))
  tf : ∀ i, i < n → ∀ j, j < s.TL i → fits (s.T i j)
  bf : ∀ i, i < n → ∀ j, j < s.BL i → fits (s.G i j)
  sz : n ≤ 17592186043904 ∧ ∀ i, i < n → s.TL i ≤ 17592186043904 ∧ s.BL i ≤ 17592186043904
theorem ScAt.cells {w w' : World} {so : Option Addr} {n cap : Nat} {s : Sc} (h : ScAt w so n cap s) (f : Below w.heap.size w w') (hn : 0 < n) : ∃ b off, so = some ⟨b, off, none⟩ ∧ ∀ i, i < n → w'.cell? ⟨b, off + i * 5, none⟩ = some (.int .i64 (s.KD i)) ∧ w'.cell? ⟨b, off + i * 5 + 1, none⟩ = some (.int .i64 (s.WH i)) ∧ w'.cell? ⟨b, off + i * 5 + 2, none⟩ = some (.slice (s.TO i) (s.TL i) (s.TC i)) ∧ w'.cell? ⟨b, off + i * 5 + 3, none⟩ = some (.slice (s.BO i) (s.BL i) (s.BC i)) ∧ w'.cell? ⟨b, off + i * 5 + 4, none⟩ = some (.int .i64 (s.NN i)) := by
  obtain ⟨b, off, rfl, hc⟩ := (h.rd.fresh f).at_ hn
  refine ⟨b, off, rfl, fun i hi => ⟨?_, ?_, ?_, ?_, ?_⟩⟩
  · rw [hc (i * 5) (by omega)]
    unfold opc
    rw [if_pos (by omega), show i * 5 / 5 = i by omega]
  · rw [Nat.add_assoc, hc (i * 5 + 1) (by omega)]
    unfold opc
    rw [if_neg (by omega), if_pos (by omega), show (i * 5 + 1) / 5 = i by omega]
  · rw [Nat.add_assoc, hc (i * 5 + 2) (by omega)]
    unfold opc
    rw [if_neg (by omega), if_neg (by omega), if_pos (by omega), show (i * 5 + 2) / 5 = i by omega]
  · rw [Nat.add_assoc, hc (i * 5 + 3) (by omega)]
    unfold opc
    rw [if_neg (by omega), if_neg (by omega), if_neg (by omega), if_pos (by omega), show (i * 5 + 3) / 5 = i by omega]
  · rw [Nat.add_assoc, hc (i * 5 + 4) (by omega)]
    unfold opc
    rw [if_neg (by omega), if_neg (by omega), if_neg (by omega), if_neg (by omega), show (i * 5 + 4) / 5 = i by omega]
def LongP (n : Nat) (s : Sc) (w : World) (e : Ending) (w' : World) : Prop := ∃ r : Bool, e = .returned (.bool r) ∧ (r = false → n ≤ 2147483647 ∧ ∀ i, i < n → s.TL i ≤ 2147483647 ∧ s.BL i ≤ 2147483647) ∧ Below w.heap.size w w'
set_option maxRecDepth 20000 in
set_option maxHeartbeats 3200000 in
theorem long_any {w : World} {so : Option Addr} {n cap : Nat} {s : Sc} (h : ScAt w so n cap s) : Calls Try.prog 27 #[.slice so n cap] w (LongP n s w) := by
  have hn := h.sz.1
  have hcap := h.rd.le
  have hcap2 : cap ≤ 9223372036854775807 := by have := h.rd.top; unfold maxLen at this; omega
  have HH := hidd h
  clear h
  go_enter Try.func27, Try.ntmps27
  go_wp2
  go_loopw [3, 4] (fun vm vi wr => ∃ i m : Nat, i ≤ n ∧ vi = .int .i64 (i : Int) ∧ vm = .int .i64 (m : Int) ∧ m ≤ 70368744177664 ∧ Hid (n ≤ m ∧ (∀ j, j < i → s.TL j ≤ m ∧ s.BL j ≤ m)) ∧ Below w.heap.size w wr) (fun _ vi _ => n - (intOf vi).toNat)
  case atStart => exact ⟨0, n, by omega, rfl, rfl, by omega, ⟨Nat.le_refl _, fun j hj => absurd hj (by omega)⟩, Below.refl _ _⟩
  case round =>
    obtain ⟨i, m, hi, rfl, rfl, hm, HM, hf⟩ := hrel
    by_cases hlg : m ≤ 2147483647
    · have HL := hidd (fun w' => lgn_no w' hlg)
      by_cases hlt : i < n
      · have hd : decide ((i : Int) < (n : Int)) = true := by simp; omega
        obtain ⟨b, off, rfl, hc⟩ := HH.out.cells hf (by omega)
        have d2 := (hc i hlt).2.2.1
        have d3 := (hc i hlt).2.2.2.1
        obtain ⟨s1, s2⟩ := HH.out.sz.2 i hlt
        have HT : Hid (∀ j, j < i + 1 → s.TL j ≤ m + s.TL i + s.BL i ∧ s.BL j ≤ m + s.TL i + s.BL i) := fun j hj => by
          by_cases e : j = i
          · subst e; omega
          · have := HM.out.2 j (by omega); omega
        have i0 : (0 : Int) ≤ (i : Int) := by omega
        have i1 : (i : Int) < (n : Int) := by omega
        clear hc
        obtain ⟨m2, hm2⟩ : ∃ m2, m2 = m + s.TL i + s.BL i := ⟨_, rfl⟩
        rw [← hm2] at HT
        have HN : Hid (n ≤ m2) := by have := HM.out.1; show n ≤ m2; omega
        generalize s.TL i = tl at *
        generalize s.BL i = bl at *
        obtain ⟨m1, hm1⟩ : ∃ m1, m1 = m + tl := ⟨_, rfl⟩
        have e1 : (m : Int) + (tl : Int) = (m1 : Int) := by omega
        have e2 : (m1 : Int) + (bl : Int) = (m2 : Int) := by omega
        have hm3 : m2 ≤ 70368744177664 := by omega
        have hm4 : m1 ≤ 70368744177664 := by omega
        clear hm1 hm2
        go_wp2_with (go_at_call 15; with_reducible refine (HL.out _).mono ?_; rintro e w5 ⟨rfl, h5⟩; rw [h5]; clear h5)
        go_quiet (fail)
        go_wp2
        go_roundw
        case rel => exact ⟨i + 1, m2, by omega, by go_num, rfl, hm3, ⟨HN.out, HT.out⟩, below_drewN hf _⟩
        case measure => simp [intOf]; omega
      · obtain rfl : n = i := by omega
        have hd : decide ((n : Int) < (n : Int)) = false := by simp
        go_wp2_with (go_at_call 15; with_reducible refine (HL.out _).mono ?_; rintro e w5 ⟨rfl, h5⟩; rw [h5]; clear h5)
        go_ret
        exact ⟨false, rfl, fun _ => ⟨by have := HM.out.1; omega, fun j hj => by have := HM.out.2 j hj; omega⟩, hf⟩
    · have HL := hidd (fun w' => lgn_yes w' (show 2147483647 < m by omega) (by omega))
      by_cases hlt : i < n
      · have hd : decide ((i : Int) < (n : Int)) = true := by simp; omega
        go_wp2_with (go_at_call 15; with_reducible refine (HL.out _).mono ?_; rintro e w5 ⟨rfl, h5⟩; rw [h5]; clear h5)
        go_ret
        exact ⟨true, rfl, fun e => (by cases e), hf⟩
      · obtain rfl : n = i := by omega
        have hd : decide ((n : Int) < (n : Int)) = false := by simp
        go_wp2_with (go_at_call 15; with_reducible refine (HL.out _).mono ?_; rintro e w5 ⟨rfl, h5⟩; rw [h5]; clear h5)
        go_ret
        exact ⟨true, rfl, fun e => (by cases e), hf⟩
end Go.Proofs.Ytaalinlggjimcaa
namespace Go.Proofs.Ytaalinlggjimcaa
open Go.RowKit
/-! PrefixScripts. -/
/-- the state of a script's world, whatever its pool -/
def WoP (Z : Nat → Prop) (w wr : World) (wd bd : Nat) : Prop := Below w.heap.size w wr ∧ (wr.rowIs wd 63 7 nilW ∨ ∃ X lab L N num y mine, X.wd = wd ∧ X.Z = Z ∧ St wr X lab L N num y mine bd ∧ ∀ z, lab z ≠ 0 → w.heap.size ≤ z)
theorem WoP.fresh {Z : Nat → Prop} {w wr wq : World} {wd bd : Nat} (h : WoP Z w wr wd bd) (f : Below wr.heap.size wr wq) : WoP Z w wq wd bd := by
  refine ⟨h.1.trans (f.mono h.1.size), ?_⟩
  rcases h.2 with r | ⟨X, lab, L, N, num, y, mine, e, e2, s, l⟩
  · exact .inl (nil_row r f)
  · exact .inr ⟨X, lab, L, N, num, y, mine, e, e2, s.fresh f, l⟩
theorem begun_any (Z : Nat → Prop) (w : World) (B S : Int) : Calls Try.prog 26 #[.int .i64 B, .int .i64 S] w fun e w' => ∃ wd, e = .returned (.tuple #[.pointer (some ⟨wd, 0, none⟩), .bool true]) ∧ WoP Z w w' wd 0 := by
  by_cases h : 1 ≤ B ∧ B ≤ 256 ∧ 1 ≤ S ∧ S ≤ 16
  · have := begun_ok Z w (B := B.toNat) (S := S.toNat) (by omega) (by omega)
    rw [show ((B.toNat : Nat) : Int) = B by omega, show ((S.toNat : Nat) : Int) = S by omega] at this
    refine this.mono ?_
    rintro e w' ⟨X, lab, y, rfl, _, _, ez, s, l, f⟩
    exact ⟨X.wd, rfl, f, .inr ⟨X, lab, _, _, _, y, _, rfl, ez, s, l⟩⟩
  · refine (begun_nil w B S h).mono ?_
    rintro e w' ⟨rfl, r, f⟩
    exact ⟨w.heap.size, rfl, f, .inl r⟩
theorem wo_step {Z : Nat → Prop} {w wr : World} {wd bd : Nat} (h : WoP Z w wr wd bd) (hbd : bd ≤ 1099511627776) {so : Option Addr} {n cap : Nat} {s : Sc} (hs : ScAt w so n cap s) {i : Nat} (hi : i < n) (ht : s.TL i ≤ 2147483647) (hb : s.BL i ≤ 2147483647) (who : Int) (hZ : ∀ k : Nat, k < 2 → (who.tmod 2 = (k : Int) ∨ (who.tmod 2 = -1 ∧ k = 1)) → Z k) :
    Calls Try.prog 28 #[.pointer (some ⟨wd, 0, none⟩), .agg #[.int .i64 (s.KD i), .int .i64 who, .slice (s.TO i) (s.TL i) (s.TC i), .slice (s.BO i) (s.BL i) (s.BC i), .int .i64 (s.NN i)]] wr fun e w' => e = .returned (.bool true) ∧ WoP Z w w' wd (bd + 1) := by
  obtain ⟨f, r | ⟨X, lab, L, N, num, y, mine, rfl, rfl, st, l⟩⟩ := h
  · obtain ⟨k, hk, hr⟩ := who_two who
    have htk := (hs.tk i hi).fresh f
    have hbk := (hs.bk i hi).fresh f
    have key : Calls Try.prog 28 #[.pointer (some ⟨wd, 0, none⟩), .agg #[.int .i64 (s.KD i), .int .i64 who, .slice (s.TO i) (s.TL i) (s.TC i), .slice (s.BO i) (s.BL i) (s.BC i), .int .i64 (s.NN i)]] wr (NilP wr) := by
      by_cases h0 : s.KD i < 1 ∨ 7 < s.KD i
      · exact nstep_other r _ _ _ _ _ _ _ who _ h0 hk hr
      · have hc : s.KD i = 1 ∨ s.KD i = 2 ∨ s.KD i = 3 ∨ s.KD i = 4 ∨ s.KD i = 5 ∨ s.KD i = 6 ∨ s.KD i = 7 := by omega
        rcases hc with e | e | e | e | e | e | e <;> rw [e]
        · exact nstep_take r _ _ _ _ _ _ _ who hk hr
        · exact nstep_hold r _ _ _ _ _ _ _ who hk hr
        · exact nstep_drop r _ _ _ _ _ _ _ who hk hr
        · exact nstep_find r _ _ _ _ _ _ _ who htk ht hk hr
        · exact nstep_keep r _ _ _ _ _ _ _ who htk ht hbk hb hk hr
        · exact nstep_shrink r _ _ _ _ _ _ _ who hk hr
        · exact nstep_len r _ _ _ _ _ _ _ who hk hr
    refine key.mono ?_
    rintro e w' ⟨rfl, f'⟩
    exact ⟨rfl, f.trans (f'.mono f.size), .inl (nil_row r f')⟩
  · have op : ∀ {ao : Option Addr} {T c : Nat} {t : Nat → Int}, RdA w ao 1 T c (fun j => .int .i64 (t j)) → (∀ j, j < T → fits (t j)) → T ≤ 2147483647 → OpAt wr lab ao T c t := fun {ao T c t} hrd hfit hT => ⟨hrd.fresh f, hfit, fun h0 b o e => by
      obtain ⟨b1, o1, e1, hc⟩ := hrd.at_ h0
      rw [e] at e1
      injection e1 with e1
      injection e1 with e1 _
      subst e1
      have := lt_of_cell (hc 0 (by omega))
      exact Classical.not_not.1 (fun q => by have := l b q; omega), hT⟩
    refine (step_any st hbd (op (hs.tk i hi) (hs.tf i hi) ht) (op (hs.bk i hi) (hs.bf i hi) hb) (s.KD i) who (s.NN i) hZ).mono ?_
    rintro e w' ⟨rfl, lab', L', N', num', y', mine', st', ho, hch⟩
    refine ⟨rfl, hch.below f f.size (fun z hz => l z hz), .inr ⟨X, lab', L', N', num', y', mine', rfl, rfl, st', fun z hz => ?_⟩⟩
    by_cases e : z < wr.heap.size
    · rw [ho z e] at hz
      exact l z hz
    · have := f.size; omega
theorem wo_counts {Z : Nat → Prop} {w wr : World} {wd bd : Nat} (h : WoP Z w wr wd bd) : Calls Try.prog 33 #[.pointer (some ⟨wd, 0, none⟩)] wr fun e w' => e = .returned (.bool true) ∧ Below wr.heap.size wr w' := by
  obtain ⟨f, r | ⟨X, lab, L, N, num, y, mine, rfl, _, st, l⟩⟩ := h
  · exact ncounts_any r
  · exact counts_any st.ws st.ps st.rs
set_option maxRecDepth 20000 in
set_option maxHeartbeats 3200000 in
theorem scripts_law {w : World} (B S : Int) {so : Option Addr} {n cap : Nat} {s : Sc} (hs : ScAt w so n cap s) : Calls Try.prog 8 #[.int .i64 B, .int .i64 S, .slice so n cap] w fun e w' => e = .returned (.bool true) ∧ Below w.heap.size w w' := by
  have HBG := hidd (begun_any (fun _ => True) w B S)
  have HWK : Hid (∀ w1, Calls Try.prog 9 #[] w1 fun e w' => e = .returned (.bool true) ∧ Below w1.heap.size w1 w') := fun w1 => works_any w1
  have HLG : Hid (∀ w2, Below w.heap.size w w2 → Calls Try.prog 27 #[.slice so n cap] w2 (LongP n s w2)) := fun w2 f => long_any ⟨hs.rd.fresh f, fun i hi => (hs.tk i hi).fresh f, fun i hi => (hs.bk i hi).fresh f, hs.tf, hs.bf, hs.sz⟩
  have HS := hidd hs
  have hcap := hs.rd.le
  have hcap2 : cap ≤ 9223372036854775807 := by have := hs.rd.top; unfold maxLen at this; omega
  clear hs
  go_enter Try.func8, Try.ntmps8
  go_wp2_with (first
    | (go_at_call 26; with_reducible refine HBG.out.mono ?_; rintro e w1 ⟨wd, rfl, W1⟩; have HW1 := hidd W1; clear W1 HBG)
    | (go_at_call 9; with_reducible refine (HWK.out w1).mono ?_; rintro e w2 ⟨rfl, f2⟩; have HW2 := hidd (HW1.out.fresh f2); clear HW1))
  refine (HLG.out w2 HW2.out.1).mono ?_
  rintro e w3 ⟨r, rfl, hr, f3⟩
  have HW3 := hidd (HW2.out.fresh f3)
  have HR := hidd hr
  clear HW2 HLG hr f2 f3
  cases r with
  | true =>
    go_wp2
    go_ret
    exact ⟨rfl, HW3.out.1⟩
  | false =>
    have hn : n ≤ 2147483647 := (HR.out rfl).1
    have HT := hidd (HR.out rfl).2
    clear HR
    go_wp2
    go_loopw [8, 10] (fun vo vi wr => ∃ i : Nat, i ≤ n ∧ vi = .int .i64 (i : Int) ∧ vo = .bool true ∧ Hid (WoP (fun _ => True) w wr wd i)) (fun _ vi _ => n - (intOf vi).toNat)
    case atStart => exact ⟨0, by omega, rfl, rfl, HW3.out⟩
    case round =>
      clear HW3
      obtain ⟨i, hi, rfl, rfl, HW⟩ := hrel
      by_cases hlt : i < n
      · obtain ⟨b, off, rfl, hc⟩ := HS.out.cells HW.out.1 (by omega)
        obtain ⟨d0, d1, d2, d3, d4⟩ := hc i hlt
        have HST := hidd (wo_step HW.out (by omega) HS.out hlt (HT.out i hlt).1 (HT.out i hlt).2 (s.WH i) (fun _ _ _ => trivial))
        have i0 : (0 : Int) ≤ (i : Int) := by omega
        have i1 : (i : Int) < (n : Int) := by omega
        clear hc HW
        go_wp2_with (first
          | (go_at_call 28; with_reducible refine HST.out.mono ?_; rintro e w5 ⟨rfl, W5⟩; have HW5 := hidd W5; clear W5 HST; have HCT := hidd (wo_counts HW5.out))
          | (go_at_call 33; with_reducible refine HCT.out.mono ?_; rintro e w6 ⟨rfl, f6⟩))
        go_roundw
        case rel => exact ⟨i + 1, by omega, by go_num, rfl, HW5.out.fresh f6⟩
        case measure => simp [intOf]; omega
      · obtain rfl : n = i := by omega
        go_wp2
        go_ret
        exact ⟨rfl, HW.out.1⟩
end Go.Proofs.Ytaalinlggjimcaa
