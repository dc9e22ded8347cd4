import Derived.Test.YtemmghneohnigabDoorVE
namespace Go.Proofs.YtemmghneohnigabDoor
open Go.RowKit
/-! The reference's Print of a line whose word is known, of kind T. -/
namespace RpT
set_option maxRecDepth 20000 in
set_option maxHeartbeats 4000000 in
theorem bad3 {w : World} {k : Nat} (hk : k < 6) (k4 : k = 4) {n : Int} {t g nums : List Int} {u : Nat} {st : List (List Int)} {ao bo co : Option Addr} {ac bc cc : Nat} (hg : Byt g) (hgl : g.length ≤ 2097152) (ht : Byt t) (htl : t.length ≤ 2097152) (hst : ∀ s ∈ st, Byt s ∧ s.length ≤ 2097152) (hsl : st.length ≤ 1048576) (hu64 : u < 18446744073709551616) (hni : -9223372036854775808 ≤ n ∧ n ≤ 9223372036854775807) (hnr : ∀ x ∈ nums, -9223372036854775808 ≤ x ∧ x ≤ 9223372036854775807)
    (hr : RdA w ao 1 t.length ac (byc t)) (hn : RdA w bo 1 nums.length bc (fun j => .int .i64 (nums.getD j 0))) (hs : RdA w co 1 st.length cc (stc st)) (h : nums.length ≠ cntW k ∨ (nums.length = cntW k ∧ n < 0) ∨ (nums.length = cntW k ∧ 0 ≤ n ∧ 2147483647 < n)) :
    Calls Tryd.prog 22 #[.agg (lnA (strOfNums (wNm k)) n ao t.length ac bo nums.length bc (u : Int) (strOfNums g) co st.length cc)] w fun e w' => e = .returned (.tuple #[.string ⟨#[]⟩, .int .i64 220]) ∧ Below w.heap.size w w' := by
  have _u : True := by
    have _ := k4; have _ := hg; have _ := hgl; have _ := ht; have _ := htl; have _ := hst; have _ := hu64; have _ := hnr; have _ := hni
    trivial
  clear _u
  have hnmb := nm_byt hk
  have hnw : numW (wNm k) = (cntW k : Int) := numW_nm hk
  have q0 := str_eq hnmb.1 (nm_byt (k := 0) (by omega)).1
  have q4 := str_eq hnmb.1 (nm_byt (k := 4) (by omega)).1
  rw [show strOfNums (wNm 0) = (⟨#[97, 115, 107]⟩ : ByteArray) from rfl, show (⟨#[97, 115, 107]⟩ : ByteArray).toList = [97, 115, 107] from by decide +kernel, decide_eq_false (fun e => by have := nm_inj hk (by omega) e; omega)] at q0
  rw [show strOfNums (wNm 4) = (⟨#[116, 101, 120, 116]⟩ : ByteArray) from rfl, show (⟨#[116, 101, 120, 116]⟩ : ByteArray).toList = [116, 101, 120, 116] from by decide +kernel, decide_eq_true (by rw [k4])] at q4
  have HNB := hidd (fun w => rnumbers_any hnmb.1 w)
  rw [hnw] at HNB
  have HR := hidd hr
  have HN := hidd hn
  have HS := hidd hs
  have hlc := Nat.le_trans hsl (by decide : 1048576 ≤ 9223372036854775807)
  have hnm9 : nums.length ≤ 9223372036854775807 := by have := hn.le; have := hn.top; unfold maxLen at this; omega
  obtain ⟨sw, ESW⟩ : ∃ sw, Hid (sw = strOfNums (wNm k)) := ⟨_, rfl⟩
  obtain ⟨gd, EGD⟩ : ∃ gd, Hid (gd = strOfNums g) := ⟨_, rfl⟩
  obtain ⟨tm, ETM⟩ : ∃ tm, Hid (tm = t.length) := ⟨_, rfl⟩
  obtain ⟨nm, ENM⟩ : ∃ nm, Hid (nm = nums.length) := ⟨_, rfl⟩
  obtain ⟨sm, ESM⟩ : ∃ sm, Hid (sm = st.length) := ⟨_, rfl⟩
  obtain ⟨c, EC⟩ : ∃ c, Hid (c = cntW k) := ⟨_, rfl⟩
  simp only [← ESW.out, ← EGD.out, ← ETM.out, ← ENM.out, ← ESM.out, ← EC.out] at h q0 q4 HNB HR HN HS hlc hnm9 ⊢
  clear hr hn hs hst hnr hg ht hnw hnmb hsl htl hgl hk k4
  have HBX := hidd (Blk.new w 32 (lnA sw n ao tm ac bo nm bc (u : Int) gd co sm cc))
  have HFB := hidd (fresh_alloc w (.cells (lnA sw n ao tm ac bo nm bc (u : Int) gd co sm cc) 32))
  go_enter Tryd.func22, Tryd.ntmps22
  go_upto_region 1 with fail
  generalize w.alloc (.cells (lnA sw n ao tm ac bo nm bc (u : Int) gd co sm cc) 32) = w1 at *
  obtain ⟨B, eB⟩ : ∃ B, B = w.heap.size := ⟨_, rfl⟩
  rw [← eB] at HBX ⊢
  clear eB
  have x0 := HBX.out.cell 0
  simp at x0
  go_upto_region 2 with (go_at_call 20; with_reducible refine (HNB.out _).mono ?_; rintro e w2 ⟨rfl, f2⟩)
  have HB2 := hidd (HBX.out.fresh f2)
  have HF2 := hidd (fresh_trans HFB.out f2)
  clear f2 x0 HBX HFB HNB
  have x0 := HB2.out.cell 0
  have x1 := HB2.out.cell 1
  have x2 := HB2.out.cell 2
  have x3 := HB2.out.cell 3
  have x4 := HB2.out.cell 4
  have x5 := HB2.out.cell 5
  have x6 := HB2.out.cell 6
  simp at x0 x1 x2 x3 x4 x5 x6
  clear x4 x5 x6 x2
  rcases h with h | ⟨h, h'⟩ | ⟨h, h', h''⟩
  · have b1 : decide ((c : Int) < 0) = false := by simp
    have b2 : ((nm : Int) != (c : Int)) = true := by simp; omega
    go_wp2
    go_ret2
    exact ⟨rfl, HF2.out⟩
  · subst h
    have b1 : decide ((nm : Int) < 0) = false := by simp
    have b3 : decide (n < 0) = true := by simp; omega
    go_wp2
    go_ret2
    exact ⟨rfl, HF2.out⟩
  · subst h
    have b1 : decide ((nm : Int) < 0) = false := by simp
    have b3 : decide (n < 0) = false := by simp; omega
    have b4 : decide ((2147483647 : Int) < n) = true := by simp; omega
    go_wp2
    go_ret2
    exact ⟨rfl, HF2.out⟩
set_option maxRecDepth 20000 in
set_option maxHeartbeats 4000000 in
theorem bad50 {w : World} {k : Nat} (hk : k < 6) (k4 : k = 4) {n : Int} {t g nums : List Int} {u : Nat} {st : List (List Int)} {ao bo co : Option Addr} {ac bc cc : Nat} (hg : Byt g) (hgl : g.length ≤ 2097152) (ht : Byt t) (htl : t.length ≤ 2097152) (hst : ∀ s ∈ st, Byt s ∧ s.length ≤ 2097152) (hsl : st.length ≤ 1048576) (hu64 : u < 18446744073709551616) (hni : -9223372036854775808 ≤ n ∧ n ≤ 9223372036854775807) (hnr : ∀ x ∈ nums, -9223372036854775808 ≤ x ∧ x ≤ 9223372036854775807)
    (hr : RdA w ao 1 t.length ac (byc t)) (hn : RdA w bo 1 nums.length bc (fun j => .int .i64 (nums.getD j 0))) (hs : RdA w co 1 st.length cc (stc st)) (h1 : 0 ≤ n ∧ n ≤ 2147483647) (h2 : nums.length = cntW k) (hu : u ≠ 0) :
    Calls Tryd.prog 22 #[.agg (lnA (strOfNums (wNm k)) n ao t.length ac bo nums.length bc (u : Int) (strOfNums g) co st.length cc)] w fun e w' => e = .returned (.tuple #[.string ⟨#[]⟩, .int .i64 220]) ∧ Below w.heap.size w w' := by
  have _u : True := by
    have _ := k4; have _ := hg; have _ := hgl; have _ := ht; have _ := htl; have _ := hst; have _ := hu64; have _ := hnr; have _ := hni
    trivial
  clear _u
  have p1 : ((u : Int) != 0) = true := by simp; omega
  have hnmb := nm_byt hk
  have hnw : numW (wNm k) = (cntW k : Int) := numW_nm hk
  have q0 := str_eq hnmb.1 (nm_byt (k := 0) (by omega)).1
  have q4 := str_eq hnmb.1 (nm_byt (k := 4) (by omega)).1
  rw [show strOfNums (wNm 0) = (⟨#[97, 115, 107]⟩ : ByteArray) from rfl, show (⟨#[97, 115, 107]⟩ : ByteArray).toList = [97, 115, 107] from by decide +kernel, decide_eq_false (fun e => by have := nm_inj hk (by omega) e; omega)] at q0
  rw [show strOfNums (wNm 4) = (⟨#[116, 101, 120, 116]⟩ : ByteArray) from rfl, show (⟨#[116, 101, 120, 116]⟩ : ByteArray).toList = [116, 101, 120, 116] from by decide +kernel, decide_eq_true (by rw [k4])] at q4
  have HNB := hidd (fun w => rnumbers_any hnmb.1 w)
  rw [hnw] at HNB
  have HR := hidd hr
  have HN := hidd hn
  have HS := hidd hs
  have hlc := Nat.le_trans hsl (by decide : 1048576 ≤ 9223372036854775807)
  have hnm9 : nums.length ≤ 9223372036854775807 := by have := hn.le; have := hn.top; unfold maxLen at this; omega
  obtain ⟨sw, ESW⟩ : ∃ sw, Hid (sw = strOfNums (wNm k)) := ⟨_, rfl⟩
  obtain ⟨gd, EGD⟩ : ∃ gd, Hid (gd = strOfNums g) := ⟨_, rfl⟩
  obtain ⟨tm, ETM⟩ : ∃ tm, Hid (tm = t.length) := ⟨_, rfl⟩
  obtain ⟨nm, ENM⟩ : ∃ nm, Hid (nm = nums.length) := ⟨_, rfl⟩
  obtain ⟨sm, ESM⟩ : ∃ sm, Hid (sm = st.length) := ⟨_, rfl⟩
  obtain ⟨c, EC⟩ : ∃ c, Hid (c = cntW k) := ⟨_, rfl⟩
  simp only [← ESW.out, ← EGD.out, ← ETM.out, ← ENM.out, ← ESM.out, ← EC.out] at q0 q4 HNB HR HN HS hlc hnm9 h2 ⊢
  clear hr hn hs hst hnr hg ht hnw hnmb hsl htl hgl hk k4
  subst h2
  have b1 : decide ((nm : Int) < 0) = false := by simp
  have b3 : decide (n < 0) = false := by simp; omega
  have b4 : decide ((2147483647 : Int) < n) = false := by simp; omega
  have HBX := hidd (Blk.new w 32 (lnA sw n ao tm ac bo nm bc (u : Int) gd co sm cc))
  have HFB := hidd (fresh_alloc w (.cells (lnA sw n ao tm ac bo nm bc (u : Int) gd co sm cc) 32))
  go_enter Tryd.func22, Tryd.ntmps22
  go_upto_region 1 with fail
  generalize w.alloc (.cells (lnA sw n ao tm ac bo nm bc (u : Int) gd co sm cc) 32) = w1 at *
  obtain ⟨B, eB⟩ : ∃ B, B = w.heap.size := ⟨_, rfl⟩
  rw [← eB] at HBX ⊢
  clear eB
  have x0 := HBX.out.cell 0
  simp at x0
  go_upto_region 2 with (go_at_call 20; with_reducible refine (HNB.out _).mono ?_; rintro e w2 ⟨rfl, f2⟩)
  have HB2 := hidd (HBX.out.fresh f2)
  have HF2 := hidd (fresh_trans HFB.out f2)
  clear f2 x0 HBX HFB HNB
  have x0 := HB2.out.cell 0
  have x1 := HB2.out.cell 1
  have x2 := HB2.out.cell 2
  have x3 := HB2.out.cell 3
  have x4 := HB2.out.cell 4
  have x5 := HB2.out.cell 5
  have x6 := HB2.out.cell 6
  simp at x0 x1 x2 x3 x4 x5 x6
  go_wp2
  go_ret2
  exact ⟨rfl, HF2.out⟩
set_option maxRecDepth 20000 in
set_option maxHeartbeats 4000000 in
theorem bad51 {w : World} {k : Nat} (hk : k < 6) (k4 : k = 4) {n : Int} {t g nums : List Int} {u : Nat} {st : List (List Int)} {ao bo co : Option Addr} {ac bc cc : Nat} (hg : Byt g) (hgl : g.length ≤ 2097152) (ht : Byt t) (htl : t.length ≤ 2097152) (hst : ∀ s ∈ st, Byt s ∧ s.length ≤ 2097152) (hsl : st.length ≤ 1048576) (hu64 : u < 18446744073709551616) (hni : -9223372036854775808 ≤ n ∧ n ≤ 9223372036854775807) (hnr : ∀ x ∈ nums, -9223372036854775808 ≤ x ∧ x ≤ 9223372036854775807)
    (hr : RdA w ao 1 t.length ac (byc t)) (hn : RdA w bo 1 nums.length bc (fun j => .int .i64 (nums.getD j 0))) (hs : RdA w co 1 st.length cc (stc st)) (h1 : 0 ≤ n ∧ n ≤ 2147483647) (h2 : nums.length = cntW k) (hu : u = 0 ∧ g ≠ []) :
    Calls Tryd.prog 22 #[.agg (lnA (strOfNums (wNm k)) n ao t.length ac bo nums.length bc (u : Int) (strOfNums g) co st.length cc)] w fun e w' => e = .returned (.tuple #[.string ⟨#[]⟩, .int .i64 220]) ∧ Below w.heap.size w w' := by
  have _u : True := by
    have _ := k4; have _ := hg; have _ := hgl; have _ := ht; have _ := htl; have _ := hst; have _ := hu64; have _ := hnr; have _ := hni
    trivial
  clear _u
  obtain ⟨rfl, hg'⟩ := hu
  have hie := str_ne hg hg'
  have hnmb := nm_byt hk
  have hnw : numW (wNm k) = (cntW k : Int) := numW_nm hk
  have q0 := str_eq hnmb.1 (nm_byt (k := 0) (by omega)).1
  have q4 := str_eq hnmb.1 (nm_byt (k := 4) (by omega)).1
  rw [show strOfNums (wNm 0) = (⟨#[97, 115, 107]⟩ : ByteArray) from rfl, show (⟨#[97, 115, 107]⟩ : ByteArray).toList = [97, 115, 107] from by decide +kernel, decide_eq_false (fun e => by have := nm_inj hk (by omega) e; omega)] at q0
  rw [show strOfNums (wNm 4) = (⟨#[116, 101, 120, 116]⟩ : ByteArray) from rfl, show (⟨#[116, 101, 120, 116]⟩ : ByteArray).toList = [116, 101, 120, 116] from by decide +kernel, decide_eq_true (by rw [k4])] at q4
  have HNB := hidd (fun w => rnumbers_any hnmb.1 w)
  rw [hnw] at HNB
  have HR := hidd hr
  have HN := hidd hn
  have HS := hidd hs
  have hlc := Nat.le_trans hsl (by decide : 1048576 ≤ 9223372036854775807)
  have hnm9 : nums.length ≤ 9223372036854775807 := by have := hn.le; have := hn.top; unfold maxLen at this; omega
  obtain ⟨sw, ESW⟩ : ∃ sw, Hid (sw = strOfNums (wNm k)) := ⟨_, rfl⟩
  obtain ⟨gd, EGD⟩ : ∃ gd, Hid (gd = strOfNums g) := ⟨_, rfl⟩
  obtain ⟨tm, ETM⟩ : ∃ tm, Hid (tm = t.length) := ⟨_, rfl⟩
  obtain ⟨nm, ENM⟩ : ∃ nm, Hid (nm = nums.length) := ⟨_, rfl⟩
  obtain ⟨sm, ESM⟩ : ∃ sm, Hid (sm = st.length) := ⟨_, rfl⟩
  obtain ⟨c, EC⟩ : ∃ c, Hid (c = cntW k) := ⟨_, rfl⟩
  simp only [← ESW.out, ← EGD.out, ← ETM.out, ← ENM.out, ← ESM.out, ← EC.out] at q0 q4 HNB HR HN HS hlc hnm9 h2 hie ⊢
  clear hr hn hs hst hnr hg ht hnw hnmb hsl htl hgl hk k4
  subst h2
  have b1 : decide ((nm : Int) < 0) = false := by simp
  have b3 : decide (n < 0) = false := by simp; omega
  have b4 : decide ((2147483647 : Int) < n) = false := by simp; omega
  have hie1 := hie.1
  have hie2 := hie.2
  have HBX := hidd (Blk.new w 32 (lnA sw n ao tm ac bo nm bc ((0 : Nat) : Int) gd co sm cc))
  have HFB := hidd (fresh_alloc w (.cells (lnA sw n ao tm ac bo nm bc ((0 : Nat) : Int) gd co sm cc) 32))
  go_enter Tryd.func22, Tryd.ntmps22
  go_upto_region 1 with fail
  generalize w.alloc (.cells (lnA sw n ao tm ac bo nm bc ((0 : Nat) : Int) gd co sm cc) 32) = w1 at *
  obtain ⟨B, eB⟩ : ∃ B, B = w.heap.size := ⟨_, rfl⟩
  rw [← eB] at HBX ⊢
  clear eB
  have x0 := HBX.out.cell 0
  simp at x0
  go_upto_region 2 with (go_at_call 20; with_reducible refine (HNB.out _).mono ?_; rintro e w2 ⟨rfl, f2⟩)
  have HB2 := hidd (HBX.out.fresh f2)
  have HF2 := hidd (fresh_trans HFB.out f2)
  clear f2 x0 HBX HFB HNB
  have x0 := HB2.out.cell 0
  have x1 := HB2.out.cell 1
  have x2 := HB2.out.cell 2
  have x3 := HB2.out.cell 3
  have x4 := HB2.out.cell 4
  have x5 := HB2.out.cell 5
  have x6 := HB2.out.cell 6
  simp at x0 x1 x2 x3 x4 x5 x6
  go_wp2
  go_ret2
  exact ⟨rfl, HF2.out⟩
set_option maxRecDepth 20000 in
set_option maxHeartbeats 4000000 in
theorem bad52 {w : World} {k : Nat} (hk : k < 6) (k4 : k = 4) {n : Int} {t g nums : List Int} {u : Nat} {st : List (List Int)} {ao bo co : Option Addr} {ac bc cc : Nat} (hg : Byt g) (hgl : g.length ≤ 2097152) (ht : Byt t) (htl : t.length ≤ 2097152) (hst : ∀ s ∈ st, Byt s ∧ s.length ≤ 2097152) (hsl : st.length ≤ 1048576) (hu64 : u < 18446744073709551616) (hni : -9223372036854775808 ≤ n ∧ n ≤ 9223372036854775807) (hnr : ∀ x ∈ nums, -9223372036854775808 ≤ x ∧ x ≤ 9223372036854775807)
    (hr : RdA w ao 1 t.length ac (byc t)) (hn : RdA w bo 1 nums.length bc (fun j => .int .i64 (nums.getD j 0))) (hs : RdA w co 1 st.length cc (stc st)) (h1 : 0 ≤ n ∧ n ≤ 2147483647) (h2 : nums.length = cntW k) (hu : u = 0 ∧ g = [] ∧ st ≠ []) :
    Calls Tryd.prog 22 #[.agg (lnA (strOfNums (wNm k)) n ao t.length ac bo nums.length bc (u : Int) (strOfNums g) co st.length cc)] w fun e w' => e = .returned (.tuple #[.string ⟨#[]⟩, .int .i64 220]) ∧ Below w.heap.size w w' := by
  have _u : True := by
    have _ := k4; have _ := hg; have _ := hgl; have _ := ht; have _ := htl; have _ := hst; have _ := hu64; have _ := hnr; have _ := hni
    trivial
  clear _u
  obtain ⟨rfl, rfl, hs'⟩ := hu
  have hsn : 0 < st.length := List.length_pos_iff.2 hs'
  have hnmb := nm_byt hk
  have hnw : numW (wNm k) = (cntW k : Int) := numW_nm hk
  have q0 := str_eq hnmb.1 (nm_byt (k := 0) (by omega)).1
  have q4 := str_eq hnmb.1 (nm_byt (k := 4) (by omega)).1
  rw [show strOfNums (wNm 0) = (⟨#[97, 115, 107]⟩ : ByteArray) from rfl, show (⟨#[97, 115, 107]⟩ : ByteArray).toList = [97, 115, 107] from by decide +kernel, decide_eq_false (fun e => by have := nm_inj hk (by omega) e; omega)] at q0
  rw [show strOfNums (wNm 4) = (⟨#[116, 101, 120, 116]⟩ : ByteArray) from rfl, show (⟨#[116, 101, 120, 116]⟩ : ByteArray).toList = [116, 101, 120, 116] from by decide +kernel, decide_eq_true (by rw [k4])] at q4
  have HNB := hidd (fun w => rnumbers_any hnmb.1 w)
  rw [hnw] at HNB
  have HR := hidd hr
  have HN := hidd hn
  have HS := hidd hs
  have hlc := Nat.le_trans hsl (by decide : 1048576 ≤ 9223372036854775807)
  have hnm9 : nums.length ≤ 9223372036854775807 := by have := hn.le; have := hn.top; unfold maxLen at this; omega
  obtain ⟨sw, ESW⟩ : ∃ sw, Hid (sw = strOfNums (wNm k)) := ⟨_, rfl⟩
  obtain ⟨gd, EGD⟩ : ∃ gd, Hid (gd = strOfNums []) := ⟨_, rfl⟩
  obtain ⟨tm, ETM⟩ : ∃ tm, Hid (tm = t.length) := ⟨_, rfl⟩
  obtain ⟨nm, ENM⟩ : ∃ nm, Hid (nm = nums.length) := ⟨_, rfl⟩
  obtain ⟨sm, ESM⟩ : ∃ sm, Hid (sm = st.length) := ⟨_, rfl⟩
  obtain ⟨c, EC⟩ : ∃ c, Hid (c = cntW k) := ⟨_, rfl⟩
  simp only [← ESW.out, ← EGD.out, ← ETM.out, ← ENM.out, ← ESM.out, ← EC.out] at q0 q4 HNB HR HN HS hlc hnm9 h2 hsn ⊢
  obtain rfl : gd = ⟨#[]⟩ := EGD.out
  clear hr hn hs hst hnr hg ht hnw hnmb hsl htl hgl hk k4
  subst h2
  have b1 : decide ((nm : Int) < 0) = false := by simp
  have b3 : decide (n < 0) = false := by simp; omega
  have b4 : decide ((2147483647 : Int) < n) = false := by simp; omega
  have p3 : decide ((0 : Int) < (sm : Int)) = true := by simp; omega
  have HBX := hidd (Blk.new w 32 (lnA sw n ao tm ac bo nm bc ((0 : Nat) : Int) ⟨#[]⟩ co sm cc))
  have HFB := hidd (fresh_alloc w (.cells (lnA sw n ao tm ac bo nm bc ((0 : Nat) : Int) ⟨#[]⟩ co sm cc) 32))
  go_enter Tryd.func22, Tryd.ntmps22
  go_upto_region 1 with fail
  generalize w.alloc (.cells (lnA sw n ao tm ac bo nm bc ((0 : Nat) : Int) ⟨#[]⟩ co sm cc) 32) = w1 at *
  obtain ⟨B, eB⟩ : ∃ B, B = w.heap.size := ⟨_, rfl⟩
  rw [← eB] at HBX ⊢
  clear eB
  have x0 := HBX.out.cell 0
  simp at x0
  go_upto_region 2 with (go_at_call 20; with_reducible refine (HNB.out _).mono ?_; rintro e w2 ⟨rfl, f2⟩)
  have HB2 := hidd (HBX.out.fresh f2)
  have HF2 := hidd (fresh_trans HFB.out f2)
  clear f2 x0 HBX HFB HNB
  have x0 := HB2.out.cell 0
  have x1 := HB2.out.cell 1
  have x2 := HB2.out.cell 2
  have x3 := HB2.out.cell 3
  have x4 := HB2.out.cell 4
  have x5 := HB2.out.cell 5
  have x6 := HB2.out.cell 6
  simp at x0 x1 x2 x3 x4 x5 x6
  go_wp2
  go_ret2
  exact ⟨rfl, HF2.out⟩
set_option maxRecDepth 20000 in
set_option maxHeartbeats 8000000 in
theorem good {w : World} {k : Nat} (hk : k < 6) (k4 : k = 4) {n : Int} {t g nums : List Int} {u : Nat} {st : List (List Int)} {ao bo co : Option Addr} {ac bc cc : Nat} (hg : Byt g) (hgl : g.length ≤ 2097152) (ht : Byt t) (htl : t.length ≤ 2097152) (hst : ∀ s ∈ st, Byt s ∧ s.length ≤ 2097152) (hsl : st.length ≤ 1048576) (hu64 : u < 18446744073709551616) (hni : -9223372036854775808 ≤ n ∧ n ≤ 9223372036854775807) (hnr : ∀ x ∈ nums, -9223372036854775808 ≤ x ∧ x ≤ 9223372036854775807)
    (hr : RdA w ao 1 t.length ac (byc t)) (hn : RdA w bo 1 nums.length bc (fun j => .int .i64 (nums.getD j 0))) (hs : RdA w co 1 st.length cc (stc st)) (h1 : 0 ≤ n ∧ n ≤ 2147483647) (h2 : nums.length = cntW k) (h3 : u = 0 ∧ g = [] ∧ st = []) :
    Calls Tryd.prog 22 #[.agg (lnA (strOfNums (wNm k)) n ao t.length ac bo nums.length bc (u : Int) (strOfNums g) co st.length cc)] w fun e w' => PrA (wNm k) n nums u g t st e ∧ Below w.heap.size w w' := by
  have _u : True := by
    have _ := k4; have _ := hg; have _ := hgl; have _ := ht; have _ := htl; have _ := hst; have _ := hu64; have _ := hnr; have _ := hni; have _ := h3
    trivial
  clear _u
  obtain ⟨rfl, rfl, rfl⟩ := h3
  have hnmb := nm_byt hk
  have hnw : numW (wNm k) = (cntW k : Int) := numW_nm hk
  have q0 := str_eq hnmb.1 (nm_byt (k := 0) (by omega)).1
  have q4 := str_eq hnmb.1 (nm_byt (k := 4) (by omega)).1
  rw [show strOfNums (wNm 0) = (⟨#[97, 115, 107]⟩ : ByteArray) from rfl, show (⟨#[97, 115, 107]⟩ : ByteArray).toList = [97, 115, 107] from by decide +kernel, decide_eq_false (fun e => by have := nm_inj hk (by omega) e; omega)] at q0
  rw [show strOfNums (wNm 4) = (⟨#[116, 101, 120, 116]⟩ : ByteArray) from rfl, show (⟨#[116, 101, 120, 116]⟩ : ByteArray).toList = [116, 101, 120, 116] from by decide +kernel, decide_eq_true (by rw [k4])] at q4
  have HNB := hidd (fun w => rnumbers_any hnmb.1 w)
  rw [hnw] at HNB
  have HR := hidd hr
  have HN := hidd hn
  have HS := hidd hs
  have hlc := Nat.le_trans hsl (by decide : 1048576 ≤ 9223372036854775807)
  have hnm9 : nums.length ≤ 9223372036854775807 := by have := hn.le; have := hn.top; unfold maxLen at this; omega
  have hc6 : cntW k ≤ 6 := cnt_le k
  have hh0 : (wNm k ++ 32 :: numL n).length ≤ 28 := by
    have h7 := numL_len (n := n) (by omega) (by omega)
    have h8 := hnmb.2
    simp
    omega
  have HLEN : Hid (∀ j, j ≤ nums.length → ((nums.take j).foldl pn (wNm k ++ 32 :: numL n)).length ≤ 200) := fun j hj => by
    have h' := foldn_len (nums.take j) (fun x hx => hnr x (List.mem_of_mem_take hx)) (wNm k ++ 32 :: numL n)
    rw [List.length_take] at h'
    omega
  have HIN := hidd (fun w => rint_any hni.1 hni.2 w)
  have HNI := hidd (fun (j : Nat) (hj : j < nums.length) w => rint_any (n := nums.getD j 0) (by rw [List.getD_eq_getElem?_getD, List.getElem?_eq_getElem hj]; exact (hnr _ (List.getElem_mem _)).1) (by rw [List.getD_eq_getElem?_getD, List.getElem?_eq_getElem hj]; exact (hnr _ (List.getElem_mem _)).2) w)
  have HNZ : Hid (∀ j, j < nums.length → (strOfNums (numL (nums.getD j 0))).size ≤ 21) := fun j hj => by
    rw [strOfNums_size]
    exact numL_len (by rw [List.getD_eq_getElem?_getD, List.getElem?_eq_getElem hj]; exact (hnr _ (List.getElem_mem _)).1) (by rw [List.getD_eq_getElem?_getD, List.getElem?_eq_getElem hj]; exact (hnr _ (List.getElem_mem _)).2)
  have HNJ : Hid (∀ j, j < nums.length → strOfNums ((nums.take j).foldl pn (wNm k ++ 32 :: numL n)) ++ ⟨#[32]⟩ ++ strOfNums (numL (nums.getD j 0)) = strOfNums ((nums.take (j + 1)).foldl pn (wNm k ++ 32 :: numL n))) := fun j hj => by rw [foldn_take hj, app3]
  have HJ0 : Hid (strOfNums (wNm k) ++ ⟨#[32]⟩ ++ strOfNums (numL n) = strOfNums (wNm k ++ 32 :: numL n)) := app3 _ _
  have HHD : Hid ((nums.take nums.length).foldl pn (wNm k ++ 32 :: numL n) = hdL k n nums) := by show _ = _; rw [List.take_length]; rfl
  have HHL : Hid ((hdL k n nums).length ≤ 200) := by
    show _ ≤ _
    rw [← HHD.out]; exact HLEN.out _ (Nat.le_refl _)
  have HTL : Hid ((lit t).length ≤ 8388610) := by
    show _ ≤ _
    have := lit_len t
    have := pies_len t
    omega
  obtain ⟨BT, EBT⟩ : ∃ BT, Hid (BT = hdL k n nums ++ 32 :: lit t) := ⟨_, rfl⟩
  have HBL : Hid (BT.length ≤ 18000000) := by
    show _ ≤ _
    rw [EBT.out]
    have h7 := HHL.out
    have h8 := HTL.out
    simp only [List.length_append, List.length_cons]
    omega
  have HLL : Hid (BT ++ stL (([] : List (List Int)).take 0) = lineL k n nums 0 [] t []) := by
    show _ = _
    rw [EBT.out]
    unfold lineL
    rw [k4, if_neg (by decide), if_pos rfl]; simp [stL]
  have H3 : Hid (onlyW k 0 [] t []) := by
    show onlyW _ _ _ _ _
    unfold onlyW
    rw [k4, if_neg (by decide), if_pos rfl]; exact ⟨rfl, rfl, rfl⟩
  have H2 := hidd h2
  have zsw : (strOfNums (wNm k)).size ≤ 6 := by rw [strOfNums_size]; exact hnmb.2
  have zsn : (strOfNums (numL n)).size ≤ 21 := by rw [strOfNums_size]; exact numL_len hni.1 hni.2
  have HQT := hidd (fun (w1 : World) (f1 : Below w.heap.size w w1) => rquote_any (hr.fresh f1) ht (by omega))
  obtain ⟨sw, ESW⟩ : ∃ sw, Hid (sw = strOfNums (wNm k)) := ⟨_, rfl⟩
  obtain ⟨sn, ESN⟩ : ∃ sn, Hid (sn = strOfNums (numL n)) := ⟨_, rfl⟩
  obtain ⟨nm, ENM⟩ : ∃ nm, Hid (nm = nums.length) := ⟨_, rfl⟩
  obtain ⟨c, EC⟩ : ∃ c, Hid (c = cntW k) := ⟨_, rfl⟩
  obtain ⟨tm, ETM⟩ : ∃ tm, Hid (tm = t.length) := ⟨_, rfl⟩
  simp only [← ESW.out, ← ESN.out, ← ENM.out, ← EC.out, ← ETM.out] at h2 q0 q4 HNB HR HN HS HIN HNI HNJ HLEN HJ0 HHD zsw zsn hc6 HQT HNZ ⊢
  have es0 : strOfNums [] = (⟨#[]⟩ : ByteArray) := rfl
  simp only [List.length_nil, es0] at HS ⊢
  clear es0
  clear hr hn hs hst hnr hg ht hnw hnmb htl hgl hh0 hlc hnm9 hni hu64 k4 hsl
  subst h2
  have b1 : decide ((nm : Int) < 0) = false := by simp
  have b3 : decide (n < 0) = false := by simp; omega
  have b4 : decide ((2147483647 : Int) < n) = false := by simp; omega
  have HBX := hidd (Blk.new w 32 (lnA sw n ao tm ac bo nm bc ((0 : Nat) : Int) ⟨#[]⟩ co 0 cc))
  have HFB := hidd (fresh_alloc w (.cells (lnA sw n ao tm ac bo nm bc ((0 : Nat) : Int) ⟨#[]⟩ co 0 cc) 32))
  go_enter Tryd.func22, Tryd.ntmps22
  go_upto_region 1 with fail
  generalize w.alloc (.cells (lnA sw n ao tm ac bo nm bc ((0 : Nat) : Int) ⟨#[]⟩ co 0 cc) 32) = w1 at *
  obtain ⟨B, eB⟩ : ∃ B, B = w.heap.size := ⟨_, rfl⟩
  rw [← eB] at HBX ⊢
  clear eB
  have x0 := HBX.out.cell 0
  simp at x0
  go_upto_region 2 with (go_at_call 20; with_reducible refine (HNB.out _).mono ?_; rintro e w2 ⟨rfl, f2⟩)
  have HB2 := hidd (HBX.out.fresh f2)
  have HF2 := hidd (fresh_trans HFB.out f2)
  clear f2 x0 HBX HFB HNB
  have x0 := HB2.out.cell 0
  have x1 := HB2.out.cell 1
  have x2 := HB2.out.cell 2
  have x3 := HB2.out.cell 3
  have x4 := HB2.out.cell 4
  have x5 := HB2.out.cell 5
  have x6 := HB2.out.cell 6
  simp at x0 x1 x2 x3 x4 x5 x6
  have zw1 : (sw ++ ⟨#[32]⟩).size ≤ 7 := by rw [app_size]; show sw.size + 1 ≤ 7; omega
  have z32 : (⟨#[32]⟩ : ByteArray).size = 1 := rfl
  go_upto_region 7 with fail
  have l0 := later_cell x0; have l1 := later_cell x1
  have ne := later_some w2
  refine wp_region_later (by kernel_rfl) (by kernel_rfl) ?_
  repeat (go_big_quiet_step (fail))
  go_big_quiet_step (exact later_of (HIN.out _))
  repeat (go_big_quiet_step (fail))
  refine wpQuiet_nil ?_
  rintro _ ⟨z, rfl⟩
  have hz := z.fresh
  obtain ⟨w3, ew3⟩ : ∃ w3, w3 = z.val := ⟨_, rfl⟩
  rw [← ew3] at hz ⊢
  clear ew3 z ne l0 l1
  rw [HJ0.out]
  have HB3 := hidd (HB2.out.fresh hz)
  have HF3 := hidd (fresh_trans HF2.out hz)
  clear hz HB2 HF2 x0 x1 x2 x3 x4 x5 x6 zw1 zsw zsn HIN
  go_wp2
  go_loopw [6, 7] (fun v i wr => ∃ j : Nat, j ≤ nm ∧ i = .int .i64 j ∧ v = .string (strOfNums ((nums.take j).foldl pn (wNm k ++ 32 :: numL n))) ∧ Hid (Below w.heap.size w wr) ∧ Hid (Blk wr B 32 (lnA sw n ao tm ac bo nm bc ((0 : Nat) : Int) ⟨#[]⟩ co 0 cc))) (fun _ i _ => nm - (intOf i).toNat)
  case atStart => exact ⟨0, by omega, rfl, rfl, HF3.out, HB3.out⟩
  case round =>
  clear HF3 HB3
  obtain ⟨j, hj, rfl, rfl, hFr, hBx⟩ := hrel
  have j0 : (0 : Int) ≤ (j : Int) := Int.natCast_nonneg _
  by_cases hlt : j < nm
  · have c3 := hBx.out.cell 3
    simp at c3
    obtain ⟨b1, o1, rfl, h1c⟩ := (HN.out.fresh hFr.out).one (by omega)
    have c1 := h1c j hlt
    have HC := hidd (fun w => HNI.out j hlt w)
    have HX := hidd (HNJ.out j hlt)
    have zx := HNZ.out j hlt
    have zv : (strOfNums ((nums.take j).foldl pn (wNm k ++ 32 :: numL n))).size ≤ 200 := by rw [strOfNums_size]; exact HLEN.out j (by omega)
    have zv1 : (strOfNums ((nums.take j).foldl pn (wNm k ++ 32 :: numL n)) ++ ⟨#[32]⟩).size ≤ 201 := by rw [app_size]; show _ + 1 ≤ _; omega
    have jj : (j : Int) < (nm : Int) := by omega
    clear h1c
    generalize strOfNums (numL (nums.getD j 0)) = sx at *
    generalize nums.getD j 0 = xj at *
    generalize strOfNums ((nums.take j).foldl pn (wNm k ++ 32 :: numL n)) = V at *
    go_wp2_with (go_at_call 41; with_reducible refine (HC.out _).mono ?_; rintro e w10 ⟨rfl, f10⟩)
    go_roundw
    case rel => exact ⟨j + 1, by omega, by go_num, by rw [HX.out], fresh_trans hFr.out f10, hBx.out.fresh f10⟩
    case measure => simp [intOf]; omega
  · obtain rfl : nm = j := by omega
    rw [HHD.out]
    obtain ⟨X, EX⟩ : ∃ X, Hid (X = strOfNums (hdL k n nums)) := ⟨_, rfl⟩
    rw [← EX.out]
    have hXz : X.size ≤ 200 := by rw [EX.out, strOfNums_size]; exact HHL.out
    have e0 := hBx.out.cell 0
    simp at e0
    have d2 := (hBx.out.cell 2)
    simp at d2
    have HQ9 := hidd (HQT.out _ hFr.out)
    have zX : X.size ≤ 200 := hXz
    have zX1 : (X ++ ⟨#[32]⟩).size ≤ 201 := by rw [app_size]; show X.size + 1 ≤ 201; omega
    have zl : (strOfNums (lit t)).size ≤ 8388610 := by rw [strOfNums_size]; exact HTL.out
    have HY : Hid (X ++ ⟨#[32]⟩ ++ strOfNums (lit t) = strOfNums BT) := by show _ = _; rw [EX.out, app3, EBT.out]
    generalize strOfNums (lit t) = slt at *
    go_upto_region 16 with (go_at_call 26; with_reducible refine (HQ9.out).mono ?_; rintro e w9 ⟨rfl, f9⟩)
    rw [HY.out]
    have HF9 := hidd (fresh_trans hFr.out f9)
    have HB9 := hidd (hBx.out.fresh f9)
    clear f9 d2 HQ9 HY zX zX1 zl
    go_wp2
    go_loopw [6, 8] (fun v i wr2 => ∃ j2 : Nat, j2 ≤ 0 ∧ i = .int .i64 j2 ∧ v = .string (strOfNums (BT ++ stL (([] : List (List Int)).take j2))) ∧ Hid (Below w.heap.size w wr2) ∧ Hid (Blk wr2 B 32 (lnA sw n ao tm ac bo nm bc ((0 : Nat) : Int) ⟨#[]⟩ co 0 cc))) (fun _ i _ => 0 - (intOf i).toNat)
    case atStart => exact ⟨0, by omega, rfl, by simp [stL], HF9.out, HB9.out⟩
    case round =>
    clear HF9 HB9
    obtain ⟨j2, hj2, rfl, rfl, hF2, hB2⟩ := hrel
    by_cases hlt2 : j2 < 0
    · exact absurd hlt2 (by omega)
    · obtain rfl : j2 = 0 := by omega
      have c6 := hB2.out.cell 6
      simp at c6
      have HT : Hid (PrR (BT ++ stL ([].take 0)) = PrR (lineL k n nums 0 [] t [])) := by
        show _ = _
        rw [HLL.out]
      have hz : (strOfNums (BT ++ stL ([].take 0))).size = (BT ++ stL ([].take 0)).length := strOfNums_size _
      have hzb : (BT ++ stL ([].take 0)).length ≤ 18000000 + 1048576 * 8388611 := by
        rw [List.length_append]
        have := HBL.out
        have h7 : (stL ([].take 0)).length = 0 := by simp [stL]
        omega
      generalize hL : BT ++ stL ([].take 0) = LL at *
      have HLL2 := hidd hL
      clear hL
      obtain ⟨N, EN⟩ : ∃ N, Hid (N = LL.length) := ⟨_, rfl⟩
      rw [← EN.out] at hz hzb
      have HTO := hidd (fun e (h : PrR LL e) => PrR.toA (k := k) (n := n) (nums := nums) (u := 0) (g := []) (t := t) (st := []) hk h1 H2.out H3.out (Sim.refl _) (by rw [← HT.out]; exact h))
      generalize hXX : strOfNums LL = XX at *
      have HXX := hidd hXX
      clear hXX
      by_cases hbig : 8192 < N
      · have b9 : decide ((8192 : Int) < (N : Int)) = true := by simp; omega
        go_wp2
        go_ret2
        exact ⟨HTO.out _ (.inl ⟨by rw [← EN.out]; exact hbig, rfl⟩), hF2.out⟩
      · have b9 : decide ((8192 : Int) < (N : Int)) = false := by simp; omega
        go_wp2
        go_ret2
        exact ⟨HTO.out _ (.inr ⟨by rw [← EN.out]; exact hbig, by rw [HXX.out]; rfl⟩), hF2.out⟩
end RpT
end Go.Proofs.YtemmghneohnigabDoor
