import Derived.Test.YtemmghneohnigaaDoorWuB
import Derived.Deep.RegionHeld3
namespace Go.Proofs.YtemmghneohnigaaDoor
open Go.RowKit
/-! pieceLen, byteOf. -/
/-- the library's two errors, as they lie -/
def Errs (w : World) : Prop := ∃ ev, w.cell? ⟨0, 0, none⟩ = some ev ∧ (ev = .nilIface ∨ ∃ te pe, ev = .iface te pe)
set_option maxRecDepth 20000 in
set_option maxHeartbeats 1000000 in
theorem hasp_any {t p : List Int} (ht : Byt t) (hp : Byt p) (w : World) :
    Calls Tryd.prog 44 #[.string (strOfNums t), .string (strOfNums p)] w fun e w' => e = .returned (.bool (decide (p <+: t))) ∧ w' = w := by
  have z1 : (strOfNums t).size = t.length := strOfNums_size t
  have z2 : (strOfNums p).size = p.length := strOfNums_size p
  by_cases hle : p.length ≤ t.length
  · have hx := str_ext t 0 p.length
    rw [List.drop_zero] at hx
    have he := str_eq (ht.take p.length) hp
    have E : Hid (decide (t.take p.length = p) = decide (p <+: t)) := by
      show _ = _
      congr 1
      rw [List.prefix_iff_eq_take]
      exact propext ⟨fun h => h.symm, fun h => h.symm⟩
    have b1 : decide ((p.length : Int) ≤ (t.length : Int)) = true := by simp; omega
    have b2 : decide (p.length ≤ t.length) = true := by simp; omega
    obtain ⟨X, eX⟩ : ∃ X, X = decide (t.take p.length = p) := ⟨_, rfl⟩
    rw [← eX] at he E
    clear eX
    go_enter Tryd.func44, Tryd.ntmps44
    go_wp2
    go_ret
    exact ⟨ret_bool E.out, rfl⟩
  · have E : Hid (false = decide (p <+: t)) := by
      show _ = _
      have : ¬ p <+: t := fun h => hle h.length_le
      simp [this]
    have b1 : decide ((p.length : Int) ≤ (t.length : Int)) = false := by simp; omega
    have b2 : decide (p.length ≤ t.length) = false := by simp; omega
    go_enter Tryd.func44, Tryd.ntmps44
    go_wp2
    go_ret
    exact ⟨ret_bool E.out, rfl⟩
set_option maxRecDepth 20000 in
set_option maxHeartbeats 1000000 in
theorem cutp_any {t p : List Int} (ht : Byt t) (hp : Byt p) (w : World) :
    Calls Tryd.prog 24 #[.string (strOfNums t), .string (strOfNums p)] w fun e w' => e = .returned (.tuple #[.string (strOfNums (if p <+: t then t.drop p.length else t)), .bool (decide (p <+: t))]) ∧ w' = w := by
  have z1 : (strOfNums t).size = t.length := strOfNums_size t
  have z2 : (strOfNums p).size = p.length := strOfNums_size p
  by_cases hle : p.length ≤ t.length
  · have hx := str_ext t 0 p.length
    rw [List.drop_zero] at hx
    have hy := str_ext t p.length t.length
    rw [List.take_length] at hy
    have he := str_eq (ht.take p.length) hp
    have b1 : decide ((p.length : Int) ≤ (t.length : Int)) = true := by simp; omega
    have b2 : decide (p.length ≤ t.length) = true := by simp; omega
    by_cases hpt : p <+: t
    · have E : t.take p.length = p := (List.prefix_iff_eq_take.1 hpt).symm
      rw [if_pos hpt]
      have E2 : Hid (decide (p <+: t) = true) := by show _ = _; simp [hpt]
      rw [E] at he hx
      simp only [decide_true] at he
      clear E hpt
      go_enter Tryd.func24, Tryd.ntmps24
      go_wp2
      go_ret2
      exact ⟨by rw [E2.out]; rfl, rfl⟩
    · have E : ¬ t.take p.length = p := fun h => hpt (List.prefix_iff_eq_take.2 h.symm)
      rw [if_neg hpt]
      have E2 : Hid (decide (p <+: t) = false) := by show _ = _; simp [hpt]
      simp only [E, decide_false] at he
      clear E hpt
      go_enter Tryd.func24, Tryd.ntmps24
      go_wp2
      go_ret2
      exact ⟨by rw [E2.out]; rfl, rfl⟩
  · have hpt : ¬ p <+: t := fun h => hle h.length_le
    rw [if_neg hpt]
    have E2 : Hid (decide (p <+: t) = false) := by show _ = _; simp [hpt]
    have b1 : decide ((p.length : Int) ≤ (t.length : Int)) = false := by simp; omega
    have b2 : decide (p.length ≤ t.length) = false := by simp; omega
    clear hpt
    go_enter Tryd.func24, Tryd.ntmps24
    go_wp2
    go_ret2
    exact ⟨by rw [E2.out]; rfl, rfl⟩
theorem s92x : strOfNums [92, 120] = ⟨#[92, 120]⟩ := rfl
theorem s92 : strOfNums [92] = ⟨#[92]⟩ := rfl
theorem s34 : strOfNums [34] = ⟨#[34]⟩ := rfl
theorem b92x : Byt [92, 120] := byt_cons (by omega) (byt_cons (by omega) byt_nil)
theorem b92 : Byt [92] := byt_cons (by omega) byt_nil
theorem b34 : Byt [34] := byt_cons (by omega) byt_nil
set_option maxRecDepth 20000 in
theorem plen_any {t : List Int} (ht : Byt t) (w : World) :
    Calls Tryd.prog 25 #[.string (strOfNums t)] w fun e w' => e = .returned (.int .i64 (plen t : Int)) ∧ w' = w := by
  have H1 := hidd (hasp_any ht b92x)
  have H2 := hidd (hasp_any ht b92)
  rw [s92x] at H1
  rw [s92] at H2
  have E : Hid ((plen t : Int) = if [92, 120] <+: t then 4 else if [92] <+: t then 2 else 1) := by
    show _ = _
    unfold plen
    split
    · rfl
    · split <;> rfl
  rw [E.out]
  by_cases c1 : [92, 120] <+: t
  · rw [if_pos c1]
    simp only [c1, decide_true] at H1
    clear c1 E
    go_enter Tryd.func25, Tryd.ntmps25
    go_wp2_with (go_at_call 44; with_reducible refine (H1.out _).mono ?_; rintro e w' ⟨rfl, rfl⟩)
    go_ret
    exact ⟨rfl, rfl⟩
  · rw [if_neg c1]
    simp only [c1, decide_false] at H1
    by_cases c2 : [92] <+: t
    · rw [if_pos c2]
      simp only [c2, decide_true] at H2
      clear c1 c2 E
      go_enter Tryd.func25, Tryd.ntmps25
      go_wp2_with (first | (go_at_call 44; with_reducible refine (H1.out _).mono ?_; rintro e w' ⟨rfl, rfl⟩) | (go_at_call 44; with_reducible refine (H2.out _).mono ?_; rintro e w' ⟨rfl, rfl⟩))
      go_ret
      exact ⟨rfl, rfl⟩
    · rw [if_neg c2]
      simp only [c2, decide_false] at H2
      clear c1 c2 E
      go_enter Tryd.func25, Tryd.ntmps25
      go_wp2_with (first | (go_at_call 44; with_reducible refine (H1.out _).mono ?_; rintro e w' ⟨rfl, rfl⟩) | (go_at_call 44; with_reducible refine (H2.out _).mono ?_; rintro e w' ⟨rfl, rfl⟩))
      go_ret
      exact ⟨rfl, rfl⟩
set_option maxRecDepth 20000 in
theorem parse16_ok {x y v : Int} (hx : 0 ≤ x ∧ x ≤ 255) (hy : 0 ≤ y ∧ y ≤ 255) (hv : p16 x y = some v) (w : World) :
    Calls Tryd.prog 45 #[.string (strOfNums [x, y]), .int .i64 16, .int .i64 8] w fun e w' => e = .returned (.tuple #[.int .u64 v, .nilIface]) ∧ Below w.heap.size w w' := by
  have H1 : Hid (Calls Tryd.prog 57 #[.string (strOfNums [x, y]), .int .i64 16, .int .i64 8] w fun e w' => e = .returned (.tuple #[.int .u64 v, .nilIface]) ∧ Below w.heap.size w w') := (iparse16 hx hy w).mono (by
    rintro e w' ⟨hf, ⟨u, hu, rfl, _⟩ | ⟨hn, _⟩⟩
    · rw [hv] at hu
      cases hu
      exact ⟨rfl, hf⟩
    · rw [hv] at hn
      cases hn)
  clear hv
  generalize strOfNums [x, y] = s at *
  go_enter Tryd.func45, Tryd.ntmps45
  go_wp2_with (go_at_call 57; with_reducible refine (H1.out).mono ?_; rintro e w1 ⟨rfl, hf1⟩)
  go_ret2
  exact ⟨rfl, hf1⟩
set_option maxRecDepth 20000 in
theorem parse16_bad {x y : Int} (hx : 0 ≤ x ∧ x ≤ 255) (hy : 0 ≤ y ∧ y ≤ 255) (hv : p16 x y = none) {w : World} (hE : Errs w) :
    Calls Tryd.prog 45 #[.string (strOfNums [x, y]), .int .i64 16, .int .i64 8] w fun e w' => ∃ tp pp, e = .returned (.tuple #[.int .u64 0, .iface tp pp]) ∧ Below w.heap.size w w' := by
  have H1 : Hid (Calls Tryd.prog 57 #[.string (strOfNums [x, y]), .int .i64 16, .int .i64 8] w fun e w' => e = .returned (.tuple #[.int .u64 0, .iface 96 (.int .i64 2)]) ∧ Below w.heap.size w w') := (iparse16 hx hy w).mono (by
    rintro e w' ⟨hf, ⟨u, hu, rfl, _⟩ | ⟨hn, rfl⟩⟩
    · rw [hv] at hu
      cases hu
    · exact ⟨rfl, hf⟩)
  have hsz : (strOfNums [x, y]).size ≤ 281474976710656 := by rw [strOfNums_size]; simp
  obtain ⟨ev, hc, hev⟩ := hE
  have HC := hidd hc
  have HEV := hidd hev
  clear hc hev hv
  generalize strOfNums [x, y] = s at *
  have HT := hidd (fun (wq : World) (fn : ByteArray) hv => Tryd.strconv_toError_syntax fn s 16 8 ev wq hsz hv HEV.out)
  clear hsz
  go_enter Tryd.func45, Tryd.ntmps45
  go_wp2_with (first | (go_at_call 57; with_reducible refine (H1.out).mono ?_; rintro e w1 ⟨rfl, hf1⟩) | (go_at_call 58; with_reducible refine (HT.out _ _ (fresh_cell hf1 HC.out)).mono ?_; rintro e w2 ⟨N, rfl, _, _, hf2⟩))
  go_ret2
  exact ⟨_, _, rfl, fresh_trans hf1 hf2⟩
end Go.Proofs.YtemmghneohnigaaDoor
namespace Go.Proofs.YtemmghneohnigaaDoor
open Go.RowKit
/-! byteOf. -/
/-- a new row of four bytes, of which none is used yet -/
def made4 : Array Value := madeCells #[.int .u8 0] 4
theorem run_make4 (w : World) : (Instr.makeSlice 22 (.int .i64 0) (.int .i64 4)).run Tryd.prog w = .ok (.slice (some ⟨w.heap.size, 0, none⟩) 0 4) (w.alloc (.cells made4 5)) := by
  obtain ⟨i, hi, z0, z1, z2⟩ := info_parts infoB
  have hr := run_make (P := Tryd.prog) w 22 5 i _ Tryd.underlying22 hi z0 .i64 .i64 0 4 (by omega) (by omega) (by rw [z2]; omega) (by omega)
  rw [z1] at hr
  exact hr
theorem own_made4 (w : World) (l : List Int) : Own (w.alloc (.cells made4 5)) w.heap.size 5 1 (.slice (some ⟨w.heap.size, 0, none⟩) 0 4) 0 (byc l) := by
  unfold Own
  exact ⟨by simp, .inr ⟨w.heap.size, 4, made4, rfl, Nat.le_refl _, (by show (w.heap.push _)[w.heap.size]? = _; simp), by omega, by unfold maxLen; omega, by unfold made4; rw [size_madeCells], by simp⟩⟩
theorem app_made4 {w : World} {c : Int} (h0 : 0 ≤ c) (h1 : c ≤ 255) :
    Calls Tryd.prog 23 #[.slice (some ⟨w.heap.size, 0, none⟩) 0 4, .int .u8 c] (w.alloc (.cells made4 5)).drew fun e w' => ∃ ao cap, e = .returned (.slice ao (pie c).length cap) ∧ (convert 22 9 (.slice ao (pie c).length cap)).run Tryd.prog w' = .ok (.string (strOfNums (pie c))) w' ∧ Below w.heap.size w w' := by
  refine (apppiece_any ((own_made4 w (pie c)).kept (Below.refl _ _).drew) h0 h1 (fun j hj => by rw [Nat.zero_add]; rfl) (Nat.le_trans (Nat.le_succ _) (by simp)) (by omega)).mono ?_
  rintro e w' ⟨v', rfl, ho, hf⟩
  rw [Nat.zero_add] at ho
  obtain ⟨ao, cap, rfl, hr⟩ := ho.rd
  exact ⟨ao, cap, rfl, conv_str hr, ((fresh_alloc w _).drew).trans hf⟩
set_option maxRecDepth 20000 in
set_option maxHeartbeats 1000000 in
theorem byteOf_one {X : Nat} (hX : X ≤ 255) (w : World) :
    Calls Tryd.prog 26 #[.string (strOfNums [(X : Int)])] w fun e w' => e = .returned (.tuple #[.int .u8 (X : Int), .bool (decide (pie X = [(X : Int)]))]) ∧ Below w.heap.size w w' := by
  have hB : Byt [(X : Int)] := byt_cons (by omega) byt_nil
  have hsz : (strOfNums [(X : Int)]).size = 1 := by rw [strOfNums_size]; rfl
  have hat : ∀ h, ((strOfNums [(X : Int)])[0]'h).toNat = X := fun h => by rw [str_at hB (by simp) h]; simp
  have hnp : ¬ [92, 120] <+: [(X : Int)] := fun h => by have := h.length_le; simp at this
  have HC := hidd (fun w => cutp_any hB b92x w)
  simp only [hnp, decide_false, if_false, s92x] at HC
  have he := str_eq (a := pie X) (b := [(X : Int)]) (fun x hx => by have := pie_byt (c := X) (by omega) x hx; omega) hB
  have hmk := run_make4
  have HA := hidd (fun (wq : World) => app_made4 (w := wq) (c := X) (by omega) (by omega))
  obtain ⟨q, eq⟩ : ∃ q, q = decide (pie X = [(X : Int)]) := ⟨_, rfl⟩
  rw [← eq] at he ⊢
  clear eq hnp
  generalize strOfNums [(X : Int)] = s at *
  generalize strOfNums (pie X) = sp at *
  go_enter Tryd.func26, Tryd.ntmps26
  go_wp2_with (go_at_call 24; with_reducible refine (HC.out _).mono ?_; rintro e w' ⟨rfl, rfl⟩)
  go_region_with (first | (go_at_call 23; with_reducible refine (HA.out _).mono ?_; rintro e w9 ⟨ao9, cap9, rfl, hcv9, hf9⟩) | fail)
  go_wp2
  go_ret2
  exact ⟨rfl, hf9⟩
set_option maxRecDepth 20000 in
set_option maxHeartbeats 1000000 in
theorem byteOf_two {X : Nat} (hX : X ≤ 255) (h120 : X ≠ 120) (w : World) :
    Calls Tryd.prog 26 #[.string (strOfNums [92, (X : Int)])] w fun e w' => e = .returned (.tuple #[.int .u8 (X : Int), .bool (decide (pie X = [92, (X : Int)]))]) ∧ Below w.heap.size w w' := by
  have hB : Byt [92, (X : Int)] := byt_cons (by omega) (byt_cons (by omega) byt_nil)
  have hsz : (strOfNums [92, (X : Int)]).size = 2 := by rw [strOfNums_size]; rfl
  have hat : ∀ h, ((strOfNums [92, (X : Int)])[1]'h).toNat = X := fun h => by rw [str_at hB (by simp) h]; simp
  have hnp : ¬ [92, 120] <+: [92, (X : Int)] := fun h => by
    simp [List.cons_prefix_cons] at h
    omega
  have HC := hidd (fun w => cutp_any hB b92x w)
  simp only [hnp, decide_false, if_false, s92x] at HC
  have he := str_eq (a := pie X) (b := [92, (X : Int)]) (fun x hx => by have := pie_byt (c := X) (by omega) x hx; omega) hB
  have hmk := run_make4
  have HA := hidd (fun (wq : World) => app_made4 (w := wq) (c := X) (by omega) (by omega))
  obtain ⟨q, eq⟩ : ∃ q, q = decide (pie X = [92, (X : Int)]) := ⟨_, rfl⟩
  rw [← eq] at he ⊢
  clear eq hnp
  generalize strOfNums [92, (X : Int)] = s at *
  generalize strOfNums (pie X) = sp at *
  go_enter Tryd.func26, Tryd.ntmps26
  go_wp2_with (go_at_call 24; with_reducible refine (HC.out _).mono ?_; rintro e w' ⟨rfl, rfl⟩)
  go_region_with (first | (go_at_call 23; with_reducible refine (HA.out _).mono ?_; rintro e w9 ⟨ao9, cap9, rfl, hcv9, hf9⟩) | fail)
  go_wp2
  go_ret2
  exact ⟨rfl, hf9⟩
theorem hexP (x y : Int) : [92, 120] <+: [92, 120, x, y] := ⟨[x, y], rfl⟩
set_option maxRecDepth 20000 in
set_option maxHeartbeats 1000000 in
theorem byteOf_hex {x y v : Int} (hx : 0 ≤ x ∧ x ≤ 255) (hy : 0 ≤ y ∧ y ≤ 255) (hp : p16 x y = some v) (hv : 0 ≤ v ∧ v ≤ 255) (w : World) :
    Calls Tryd.prog 26 #[.string (strOfNums [92, 120, x, y])] w fun e w' => e = .returned (.tuple #[.int .u8 v, .bool (decide (pie v = [92, 120, x, y]))]) ∧ Below w.heap.size w w' := by
  have hB : Byt [92, 120, x, y] := byt_cons (by omega) (byt_cons (by omega) (byt_cons hx (byt_cons hy byt_nil)))
  have hsz : (strOfNums [92, 120, x, y]).size = 4 := by rw [strOfNums_size]; rfl
  have HC := hidd (fun w => cutp_any hB b92x w)
  simp only [hexP x y, decide_true, if_true, s92x] at HC
  rw [show List.drop [(92 : Int), 120].length [92, 120, x, y] = [x, y] from rfl] at HC
  have he := str_eq (a := pie v) (b := [92, 120, x, y]) (fun x hx => by have := pie_byt (c := v) hv x hx; omega) hB
  have hmk := run_make4
  have HA := hidd (fun (wq : World) => app_made4 (w := wq) (c := v) hv.1 hv.2)
  have HPU := hidd (fun w => parse16_ok hx hy hp w)
  have h3 : v % 256 = v := by omega
  obtain ⟨v1, v2⟩ := hv
  obtain ⟨q, eq⟩ : ∃ q, q = decide (pie v = [92, 120, x, y]) := ⟨_, rfl⟩
  rw [← eq] at he ⊢
  clear eq
  generalize strOfNums [92, 120, x, y] = s at *
  generalize strOfNums [x, y] = s2 at *
  generalize strOfNums (pie v) = sp at *
  go_enter Tryd.func26, Tryd.ntmps26
  go_wp2_with (first | (go_at_call 24; with_reducible refine (HC.out _).mono ?_; rintro e w' ⟨rfl, hw'⟩; subst hw') | (go_at_call 45; with_reducible refine (HPU.out _).mono ?_; rintro e w5 ⟨rfl, hf5⟩))
  go_region_with (first | (go_at_call 23; with_reducible refine (HA.out _).mono ?_; rintro e w9 ⟨ao9, cap9, rfl, hcv9, hf9⟩) | fail)
  go_wp2
  go_ret2
  exact ⟨rfl, fresh_trans hf5 hf9⟩
set_option maxRecDepth 20000 in
set_option maxHeartbeats 1000000 in
theorem byteOf_no {x y : Int} (hx : 0 ≤ x ∧ x ≤ 255) (hy : 0 ≤ y ∧ y ≤ 255) (hp : p16 x y = none) {w : World} (hE : Errs w) :
    Calls Tryd.prog 26 #[.string (strOfNums [92, 120, x, y])] w fun e w' => e = .returned (.tuple #[.int .u8 0, .bool false]) ∧ Below w.heap.size w w' := by
  have hB : Byt [92, 120, x, y] := byt_cons (by omega) (byt_cons (by omega) (byt_cons hx (byt_cons hy byt_nil)))
  have hsz : (strOfNums [92, 120, x, y]).size = 4 := by rw [strOfNums_size]; rfl
  have HC := hidd (cutp_any hB b92x w)
  simp only [hexP x y, decide_true, if_true, s92x] at HC
  rw [show List.drop [(92 : Int), 120].length [92, 120, x, y] = [x, y] from rfl] at HC
  have HPU := hidd (parse16_bad hx hy hp hE)
  clear hE
  generalize strOfNums [92, 120, x, y] = s at *
  generalize strOfNums [x, y] = s2 at *
  go_enter Tryd.func26, Tryd.ntmps26
  go_wp2_with (first | (go_at_call 24; with_reducible refine (HC.out).mono ?_; rintro e w' ⟨rfl, hw'⟩; subst hw') | (go_at_call 45; with_reducible refine (HPU.out).mono ?_; rintro e w5 ⟨tp, pp, rfl, hf5⟩))
  go_ret2
  exact ⟨rfl, hf5⟩
end Go.Proofs.YtemmghneohnigaaDoor
namespace Go.Proofs.YtemmghneohnigaaDoor
open Go.RowKit
/-! byteOf, as the walk of Unquote wants it. -/
theorem hvD_bd {c d : Int} (h : hvD c = some d) : 0 ≤ d ∧ d < 16 := by
  unfold hvD at h
  split at h
  · simp only [Option.some.injEq] at h; omega
  · split at h
    · simp only [Option.some.injEq] at h; omega
    · cases h
theorem p16_bd {x y v : Int} (h : p16 x y = some v) : 0 ≤ v ∧ v ≤ 255 := by
  unfold p16 at h
  split at h
  · cases h
  · rename_i a ha
    split at h
    · cases h
    · rename_i b hb
      have h1 := hvD_bd ha
      have h2 := hvD_bd hb
      simp only [Option.some.injEq] at h
      omega
theorem p16_hx {c : Int} (h : 0 ≤ c ∧ c ≤ 255) : p16 (hxD (c / 16)) (hxD (c % 16)) = some c := by
  unfold p16
  rw [hvD_hx (by omega) (by omega)]
  simp only [hvD_hx (q := c % 16) (by omega) (by omega)]
  congr 1
  omega
theorem byteOf_yes {ch : List Int} {x c : Int} (hp : Part ch) (hB : Byt (ch ++ [x])) (hc : 0 ≤ c ∧ c ≤ 255) (e : ch ++ [x] = pie c) (w : World) :
    Calls Tryd.prog 26 #[.string (strOfNums (ch ++ [x]))] w fun e w' => e = .returned (.tuple #[.int .u8 c, .bool true]) ∧ Below w.heap.size w w' := by
  have hx := hB x (by simp)
  obtain ⟨X, rfl⟩ := Int.eq_ofNat_of_zero_le hx.1
  rcases pie_cases c with ⟨q, k⟩ | ⟨q, k1, k2, k3⟩ | ⟨q, k1, k2⟩
  · rw [q] at e
    cases hp with
    | nil => simp at e
    | one =>
      simp at e
      subst e
      have := byteOf_two (X := X) (by omega) (by omega) w
      rw [q] at this
      simpa using this
    | two => simp at e
    | three y => simp at e
  · rw [q] at e
    cases hp with
    | nil =>
      simp at e
      subst e
      have := byteOf_one (X := X) (by omega) w
      rw [q] at this
      simpa using this
    | one => simp at e
    | two => simp at e
    | three y => simp at e
  · rw [q] at e
    cases hp with
    | nil => simp at e
    | one => simp at e
    | two => simp at e
    | three y =>
      simp at e
      obtain ⟨e1, e2⟩ := e
      have := byteOf_hex (x := y) (y := X) (v := c) (hB y (by simp)) hx (by rw [e1, e2]; exact p16_hx hc) hc w
      rw [q, e1, e2] at this
      rw [e1, e2]
      simpa using this
theorem byteOf_nope {ch : List Int} {x : Int} (hp : Part ch) (hB : Byt (ch ++ [x])) (hl : plen (ch ++ [x]) ≤ (ch ++ [x]).length) (hn : ∀ c, 0 ≤ c ∧ c ≤ 255 → ch ++ [x] ≠ pie c) {w : World} (hE : Errs w) :
    Calls Tryd.prog 26 #[.string (strOfNums (ch ++ [x]))] w fun e w' => ∃ c, e = .returned (.tuple #[.int .u8 c, .bool false]) ∧ Below w.heap.size w w' := by
  have hx := hB x (by simp)
  obtain ⟨X, rfl⟩ := Int.eq_ofNat_of_zero_le hx.1
  cases hp with
  | nil =>
    have hne : ¬ pie X = [(X : Int)] := fun h => hn X (by omega) h.symm
    refine (byteOf_one (X := X) (by omega) w).mono ?_
    rintro e w' ⟨rfl, hf⟩
    exact ⟨X, by simp [hne], hf⟩
  | one =>
    have hne : ¬ pie X = [92, (X : Int)] := fun h => hn X (by omega) h.symm
    have h120 : X ≠ 120 := fun h => by subst h; simp [plen] at hl
    refine (byteOf_two (X := X) (by omega) h120 w).mono ?_
    rintro e w' ⟨rfl, hf⟩
    exact ⟨X, by simp [hne], hf⟩
  | two => simp [plen, List.cons_prefix_cons] at hl
  | three y =>
    cases h : p16 y X with
    | none => exact (byteOf_no (hB y (by simp)) hx h hE).mono (by rintro e w' ⟨rfl, hf⟩; exact ⟨_, rfl, hf⟩)
    | some v =>
      have hv := p16_bd h
      have hne : ¬ pie v = [92, 120, y, (X : Int)] := fun e => hn v hv e.symm
      refine (byteOf_hex (hB y (by simp)) hx h hv w).mono ?_
      rintro e w' ⟨rfl, hf⟩
      exact ⟨v, by simp [hne], hf⟩
theorem part_next {ch : List Int} {x : Int} (hp : Part ch) (h : ¬ plen (ch ++ [x]) ≤ (ch ++ [x]).length) : Part (ch ++ [x]) := by
  cases hp with
  | nil =>
    by_cases e : x = 92
    · subst e; exact .one
    · exfalso; apply h; simp [plen, List.cons_prefix_cons, Ne.symm e]
  | one =>
    by_cases e : x = 120
    · subst e; exact .two
    · exfalso; apply h; simp [plen, List.cons_prefix_cons, Ne.symm e]
  | two => exact .three x
  | three y => exfalso; apply h; simp [plen, List.cons_prefix_cons]
theorem plen_bd (p : List Int) : 1 ≤ plen p ∧ plen p ≤ 4 := by
  unfold plen
  split
  · omega
  · split <;> omega
end Go.Proofs.YtemmghneohnigaaDoor
