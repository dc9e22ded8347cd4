import Derived.Test.YtemmghneohnigaaDoorWuB
namespace Go.Proofs.YtemmghneohnigaaDoor
open Go.RowKit
/-! pieceLen, byteOf. -/
/-- the library's two errors, as they lie -/
def Errs (w : World) : Prop := ∃ ev, w.cell? ⟨0, 0, none⟩ = some ev ∧ (ev = .nilIface ∨ ∃ te pe, ev = .iface te pe)
set_option maxRecDepth 20000 in
set_option maxHeartbeats 1000000 in
theorem hasp_any {t p : List Int} (ht : Byt t) (hp : Byt p) (w : World) :
    Calls Tryd.prog 44 #[.string (strOfNums t), .string (strOfNums p)] w fun e w' => e = .returned (.bool (decide (p <+: t))) ∧ w' = w := by
  have z1 : (strOfNums t).size = t.length := strOfNums_size t
  have z2 : (strOfNums p).size = p.length := strOfNums_size p
  by_cases hle : p.length ≤ t.length
  · have hx := str_ext t 0 p.length
    rw [List.drop_zero] at hx
    have he := str_eq (ht.take p.length) hp
    have E : Hid (decide (t.take p.length = p) = decide (p <+: t)) := by
      show _ = _
      congr 1
      rw [List.prefix_iff_eq_take]
      exact propext ⟨fun h => h.symm, fun h => h.symm⟩
    have b1 : decide ((p.length : Int) ≤ (t.length : Int)) = true := by simp; omega
    have b2 : decide (p.length ≤ t.length) = true := by simp; omega
    obtain ⟨X, eX⟩ : ∃ X, X = decide (t.take p.length = p) := ⟨_, rfl⟩
    rw [← eX] at he E
    clear eX
    go_enter Tryd.func44, Tryd.ntmps44
    go_wp2
    go_ret
    exact ⟨ret_bool E.out, rfl⟩
  · have E : Hid (false = decide (p <+: t)) := by
      show _ = _
      have : ¬ p <+: t := fun h => hle h.length_le
      simp [this]
    have b1 : decide ((p.length : Int) ≤ (t.length : Int)) = false := by simp; omega
    have b2 : decide (p.length ≤ t.length) = false := by simp; omega
    go_enter Tryd.func44, Tryd.ntmps44
    go_wp2
    go_ret
    exact ⟨ret_bool E.out, rfl⟩
set_option maxRecDepth 20000 in
set_option maxHeartbeats 1000000 in
theorem cutp_any {t p : List Int} (ht : Byt t) (hp : Byt p) (w : World) :
    Calls Tryd.prog 24 #[.string (strOfNums t), .string (strOfNums p)] w fun e w' => e = .returned (.tuple #[.string (strOfNums (if p <+: t then t.drop p.length else t)), .bool (decide (p <+: t))]) ∧ w' = w := by
  have z1 : (strOfNums t).size = t.length := strOfNums_size t
  have z2 : (strOfNums p).size = p.length := strOfNums_size p
  by_cases hle : p.length ≤ t.length
  · have hx := str_ext t 0 p.length
    rw [List.drop_zero] at hx
    have hy := str_ext t p.length t.length
    rw [List.take_length] at hy
    have he := str_eq (ht.take p.length) hp
    have b1 : decide ((p.length : Int) ≤ (t.length : Int)) = true := by simp; omega
    have b2 : decide (p.length ≤ t.length) = true := by simp; omega
    by_cases hpt : p <+: t
    · have E : t.take p.length = p := (List.prefix_iff_eq_take.1 hpt).symm
      rw [if_pos hpt]
      have E2 : Hid (decide (p <+: t) = true) := by show _ = _; simp [hpt]
      rw [E] at he hx
      simp only [decide_true] at he
      clear E hpt
      go_enter Tryd.func24, Tryd.ntmps24
      go_wp2
      go_ret2
      exact ⟨by rw [E2.out]; rfl, rfl⟩
    · have E : ¬ t.take p.length = p := fun h => hpt (List.prefix_iff_eq_take.2 h.symm)
      rw [if_neg hpt]
      have E2 : Hid (decide (p <+: t) = false) := by show _ = _; simp [hpt]
      simp only [E, decide_false] at he
      clear E hpt
      go_enter Tryd.func24, Tryd.ntmps24
      go_wp2
      go_ret2
      exact ⟨by rw [E2.out]; rfl, rfl⟩
  · have hpt : ¬ p <+: t := fun h => hle h.length_le
    rw [if_neg hpt]
    have E2 : Hid (decide (p <+: t) = false) := by show _ = _; simp [hpt]
    have b1 : decide ((p.length : Int) ≤ (t.length : Int)) = false := by simp; omega
    have b2 : decide (p.length ≤ t.length) = false := by simp; omega
    clear hpt
    go_enter Tryd.func24, Tryd.ntmps24
    go_wp2
    go_ret2
    exact ⟨by rw [E2.out]; rfl, rfl⟩
theorem s92x : strOfNums [92, 120] = ⟨#[92, 120]⟩ := rfl
theorem s92 : strOfNums [92] = ⟨#[92]⟩ := rfl
theorem s34 : strOfNums [34] = ⟨#[34]⟩ := rfl
theorem b92x : Byt [92, 120] := byt_cons (by omega) (byt_cons (by omega) byt_nil)
theorem b92 : Byt [92] := byt_cons (by omega) byt_nil
theorem b34 : Byt [34] := byt_cons (by omega) byt_nil
set_option maxRecDepth 20000 in
theorem plen_any {t : List Int} (ht : Byt t) (w : World) :
    Calls Tryd.prog 25 #[.string (strOfNums t)] w fun e w' => e = .returned (.int .i64 (plen t : Int)) ∧ w' = w := by
  have H1 := hidd (hasp_any ht b92x)
  have H2 := hidd (hasp_any ht b92)
  rw [s92x] at H1
  rw [s92] at H2
  have E : Hid ((plen t : Int) = if [92, 120] <+: t then 4 else if [92] <+: t then 2 else 1) := by
    show _ = _
    unfold plen
    split
    · rfl
    · split <;> rfl
  rw [E.out]
  by_cases c1 : [92, 120] <+: t
  · rw [if_pos c1]
    simp only [c1, decide_true] at H1
    clear c1 E
    go_enter Tryd.func25, Tryd.ntmps25
    go_wp2_with (go_at_call 44; with_reducible refine (H1.out _).mono ?_; rintro e w' ⟨rfl, rfl⟩)
    go_ret
    exact ⟨rfl, rfl⟩
  · rw [if_neg c1]
    simp only [c1, decide_false] at H1
    by_cases c2 : [92] <+: t
    · rw [if_pos c2]
      simp only [c2, decide_true] at H2
      clear c1 c2 E
      go_enter Tryd.func25, Tryd.ntmps25
      go_wp2_with (first | (go_at_call 44; with_reducible refine (H1.out _).mono ?_; rintro e w' ⟨rfl, rfl⟩) | (go_at_call 44; with_reducible refine (H2.out _).mono ?_; rintro e w' ⟨rfl, rfl⟩))
      go_ret
      exact ⟨rfl, rfl⟩
    · rw [if_neg c2]
      simp only [c2, decide_false] at H2
      clear c1 c2 E
      go_enter Tryd.func25, Tryd.ntmps25
      go_wp2_with (first | (go_at_call 44; with_reducible refine (H1.out _).mono ?_; rintro e w' ⟨rfl, rfl⟩) | (go_at_call 44; with_reducible refine (H2.out _).mono ?_; rintro e w' ⟨rfl, rfl⟩))
      go_ret
      exact ⟨rfl, rfl⟩
set_option maxRecDepth 20000 in
theorem parse16_ok {x y v : Int} (hx : 0 ≤ x ∧ x ≤ 255) (hy : 0 ≤ y ∧ y ≤ 255) (hv : p16 x y = some v) (w : World) :
    Calls Tryd.prog 45 #[.string (strOfNums [x, y]), .int .i64 16, .int .i64 8] w fun e w' => e = .returned (.tuple #[.int .u64 v, .nilIface]) ∧ Below w.heap.size w w' := by
  have H1 : Hid (Calls Tryd.prog 57 #[.string (strOfNums [x, y]), .int .i64 16, .int .i64 8] w fun e w' => e = .returned (.tuple #[.int .u64 v, .nilIface]) ∧ Below w.heap.size w w') := (iparse16 hx hy w).mono (by
    rintro e w' ⟨hf, ⟨u, hu, rfl, _⟩ | ⟨hn, _⟩⟩
    · rw [hv] at hu
      cases hu
      exact ⟨rfl, hf⟩
    · rw [hv] at hn
      cases hn)
  clear hv
  generalize strOfNums [x, y] = s at *
  go_enter Tryd.func45, Tryd.ntmps45
  go_wp2_with (go_at_call 57; with_reducible refine (H1.out).mono ?_; rintro e w1 ⟨rfl, hf1⟩)
  go_ret2
  exact ⟨rfl, hf1⟩
set_option maxRecDepth 20000 in
theorem parse16_bad {x y : Int} (hx : 0 ≤ x ∧ x ≤ 255) (hy : 0 ≤ y ∧ y ≤ 255) (hv : p16 x y = none) {w : World} (hE : Errs w) :
    Calls Tryd.prog 45 #[.string (strOfNums [x, y]), .int .i64 16, .int .i64 8] w fun e w' => ∃ tp pp, e = .returned (.tuple #[.int .u64 0, .iface tp pp]) ∧ Below w.heap.size w w' := by
  have H1 : Hid (Calls Tryd.prog 57 #[.string (strOfNums [x, y]), .int .i64 16, .int .i64 8] w fun e w' => e = .returned (.tuple #[.int .u64 0, .iface 96 (.int .i64 2)]) ∧ Below w.heap.size w w') := (iparse16 hx hy w).mono (by
    rintro e w' ⟨hf, ⟨u, hu, rfl, _⟩ | ⟨hn, rfl⟩⟩
    · rw [hv] at hu
      cases hu
    · exact ⟨rfl, hf⟩)
  have hsz : (strOfNums [x, y]).size ≤ 281474976710656 := by rw [strOfNums_size]; simp
  obtain ⟨ev, hc, hev⟩ := hE
  have HC := hidd hc
  have HEV := hidd hev
  clear hc hev hv
  generalize strOfNums [x, y] = s at *
  have HT := hidd (fun (wq : World) (fn : ByteArray) hv => Tryd.strconv_toError_syntax fn s 16 8 ev wq hsz hv HEV.out)
  clear hsz
  go_enter Tryd.func45, Tryd.ntmps45
  go_wp2_with (first | (go_at_call 57; with_reducible refine (H1.out).mono ?_; rintro e w1 ⟨rfl, hf1⟩) | (go_at_call 58; with_reducible refine (HT.out _ _ (fresh_cell hf1 HC.out)).mono ?_; rintro e w2 ⟨N, rfl, _, _, hf2⟩))
  go_ret2
  exact ⟨_, _, rfl, fresh_trans hf1 hf2⟩
end Go.Proofs.YtemmghneohnigaaDoor
