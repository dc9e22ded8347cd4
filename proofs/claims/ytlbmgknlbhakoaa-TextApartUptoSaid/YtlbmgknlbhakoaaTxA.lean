import Derived.Test.YtlbmgknlbhakoaaTxN
import Derived.Test.YtlbmgknlbhakoaaLat
import Derived.Laws.RangeAny
import Derived.Deep.DeepCutAuto
namespace Go.Proofs.Ytlbmgknlbhakoaa
open Go.RowKit
/-! Runes: firstRune, beginsRune, runeBegun. -/
theorem conv_str {w : World} {ao : Option Addr} {l : List Int} {cap : Nat} (h : RdA w ao 1 l.length cap (fun j => .int .u8 (l.getD j 0))) : (convert 22 9 (.slice ao l.length cap)).run Try.prog w = .ok (.string (strOfNums l)) w := by
  by_cases h0 : 0 < l.length
  · obtain ⟨b, off, rfl, hc⟩ := h.one h0
    exact run_convert_bytes_arg (P := Try.prog) w 22 5 Try.underlying22 Try.underlying5 b off l.length cap l rfl hc 9 Try.underlying9
  · obtain rfl : l = [] := by cases l with
      | nil => rfl
      | cons a r => simp at h0
    cases ao with
    | none => exact run_convert_bytes_nil (P := Try.prog) w 22 5 Try.underlying22 Try.underlying5 0 cap 9 Try.underlying9
    | some a =>
      rw [run_convert_bytes_string w 22 9 5 _ _ cap Try.underlying22 Try.underlying5 Try.underlying9, run_bytesToString w a _ cap [] (by simpa using run_loadCells_list (P := Try.prog) w a [] (by simp))]
      rfl
theorem str_app (a b : List Int) : strOfNums a ++ strOfNums b = strOfNums (a ++ b) := by
  unfold strOfNums
  rw [ByteArray.mk_append_mk]
  simp
theorem width_pos (s : ByteArray) (pos : Nat) (h : pos < s.size) : 1 ≤ (Utf8.decode s pos).2 := by
  by_cases ha : (s[pos]'h).toNat < 128
  · rw [decode_ascii s pos h ha]
    exact Nat.le_refl _
  · exact (decode_high s pos h (by omega)).2
theorem width_le (s : ByteArray) (h : 0 < s.size) : (Utf8.decode s 0).2 ≤ s.size := by
  rw [dec_wid]
  unfold widF
  repeat' split
  all_goals omega
set_option maxRecDepth 100000 in
theorem firstR_any (s : ByteArray) (h : 0 < s.size) (w : World) :
    Calls Try.prog 49 #[.string s] w fun e w' => e = .returned (.int .i64 ((Utf8.decode s 0).2 : Int)) ∧ Below w.heap.size w w' := by
  have hw1 := width_pos s 0 h
  have hw2 := width_le s h
  obtain ⟨K, eK⟩ : ∃ K, K = (Utf8.decode s 0).2 := ⟨_, rfl⟩
  rw [← eK] at hw1 hw2 ⊢
  have EK := hidd eK
  clear eK
  go_enter Try.func49, Try.ntmps49
  go_wp2
  go_loopw [] (fun w' => ∃ pos : Nat, w' = w.iter s pos ∧ (pos = 0 ∨ pos = K)) (fun w' => s.size - w'.iterPos w.heap.size)
  case atStart => exact ⟨0, rfl, .inl rfl⟩
  case round =>
    obtain ⟨pos, rfl, hp⟩ := hrel
    by_cases hlt : pos < s.size
    · have hnx : ∀ ty, (Instr.next (.pointer (some ⟨w.heap.size, 0, none⟩)) true ty).run Try.prog (w.iter s pos) = _ := fun ty => run_next_any w s pos ty hlt
      rcases hp with rfl | rfl
      · rw [← EK.out] at hnx
        go_wp2
        go_roundw
        case rel => exact ⟨K, by simp, .inr rfl⟩
        case measure => simp; omega
      · go_wp2
        go_ret
        exact ⟨rfl, fresh_alloc _ _⟩
    · have hnx : ∀ ty, (Instr.next (.pointer (some ⟨w.heap.size, 0, none⟩)) true ty).run Try.prog (w.iter s pos) = _ := fun ty => run_next_end w s pos ty hlt
      have e : ((s.size : Nat) : Int) = (K : Int) := by omega
      have E := hidd e
      clear e
      go_wp2
      go_ret
      exact ⟨ret_int E.out, fresh_alloc _ _⟩
set_option maxRecDepth 100000 in
theorem begR_any (l : List Int) (h0 : 0 < l.length) (h3 : l.length ≤ 3) (w : World) :
    Calls Try.prog 44 #[.string (strOfNums l)] w fun e w' => e = .returned (.bool (runeB l)) ∧ Below w.heap.size w w' := by
  have e1 : strOfNums l ++ ⟨#[128, 128, 128]⟩ = strOfNums (l ++ [128, 128, 128]) := str_app l [128, 128, 128]
  have e2 : strOfNums l ++ ⟨#[191, 191, 191]⟩ = strOfNums (l ++ [191, 191, 191]) := str_app l [191, 191, 191]
  have hz := strOfNums_size l
  have H1 := hidd (fun w => firstR_any (strOfNums (l ++ [128, 128, 128])) (by rw [strOfNums_size]; simp) w)
  have H2 := hidd (fun w => firstR_any (strOfNums (l ++ [191, 191, 191])) (by rw [strOfNums_size]; simp) w)
  have E1 : (Utf8.decode (strOfNums (l ++ [128, 128, 128])) 0).2 = wid (l ++ [128, 128, 128]) := rfl
  have E2 : (Utf8.decode (strOfNums (l ++ [191, 191, 191])) 0).2 = wid (l ++ [191, 191, 191]) := rfl
  rw [E1] at H1
  rw [E2] at H2
  obtain ⟨u1, eu1⟩ : ∃ u, u = wid (l ++ [128, 128, 128]) := ⟨_, rfl⟩
  obtain ⟨u2, eu2⟩ : ∃ u, u = wid (l ++ [191, 191, 191]) := ⟨_, rfl⟩
  have er : runeB l = (decide (l.length < u1) || decide (l.length < u2)) := by rw [eu1, eu2]; rfl
  rw [← eu1] at H1
  rw [← eu2] at H2
  clear eu1 eu2 E1 E2
  rw [er]
  clear er
  by_cases c1 : l.length < u1
  · have d1 : decide ((l.length : Int) < (u1 : Int)) = true := by simp; omega
    go_enter Try.func44, Try.ntmps44
    go_wp2_with fail
    refine (H1.out _).mono ?_
    rintro e w1 ⟨rfl, f1⟩
    go_wp2
    go_ret
    exact ⟨ret_bool (by simp [c1]), f1⟩
  · have d1 : decide ((l.length : Int) < (u1 : Int)) = false := by simp; omega
    go_enter Try.func44, Try.ntmps44
    go_wp2_with fail
    refine (H1.out _).mono ?_
    rintro e w1 ⟨rfl, f1⟩
    go_wp2_with fail
    refine (H2.out _).mono ?_
    rintro e w2 ⟨rfl, f2⟩
    have f3 := fresh_trans f1 f2
    go_wp2
    go_ret
    exact ⟨ret_bool (by simp [c1]), f3⟩
theorem RdA.tail {w : World} {b off n cap : Nat} {l : List Int} (h : RdA w (some ⟨b, off, none⟩) 1 l.length cap (fun j => .int .u8 (l.getD j 0))) (hn : n ≤ l.length) : RdA w (some ⟨b, off + n, none⟩) 1 (l.drop n).length (cap - n) (fun j => .int .u8 ((l.drop n).getD j 0)) := by
  refine ⟨by have := h.le; rw [List.length_drop]; omega, by have := h.top; omega, fun h0 => ⟨b, off + n, rfl, fun j hj => ?_⟩⟩
  rw [List.length_drop] at h0 hj
  obtain ⟨b', o', e, hc⟩ := h.one (by omega)
  cases e
  rw [show off + n + j = off + (n + j) by omega, hc (n + j) (by omega)]
  simp [List.getD_eq_getElem?_getD]
theorem RdA.head {w : World} {b off n cap : Nat} {l : List Int} (h : RdA w (some ⟨b, off, none⟩) 1 l.length cap (fun j => .int .u8 (l.getD j 0))) (hn : n ≤ l.length) : RdA w (some ⟨b, off, none⟩) 1 (l.take n).length cap (fun j => .int .u8 ((l.take n).getD j 0)) := by
  refine ⟨by have := h.le; rw [List.length_take]; omega, h.top, fun h0 => ⟨b, off, rfl, fun j hj => ?_⟩⟩
  rw [List.length_take] at h0 hj
  obtain ⟨b', o', e, hc⟩ := h.one (by omega)
  cases e
  rw [hc j (by omega)]
  have : j < n := by omega
  simp [List.getD_eq_getElem?_getD, this]
set_option maxRecDepth 100000 in
set_option maxHeartbeats 1000000 in
theorem runeBg_any {w : World} {ao : Option Addr} {l : List Int} {cap : Nat} (h : RdA w ao 1 l.length cap (fun j => .int .u8 (l.getD j 0))) :
    Calls Try.prog 38 #[.slice ao l.length cap] w fun e w' => e = .returned (.int .i64 (runeN l : Int)) ∧ Below w.heap.size w w' := by
  have hle := h.le
  have htop := h.top
  unfold maxLen at htop
  obtain ⟨L, eL⟩ : ∃ L, L = l.length := ⟨_, rfl⟩
  have EL := hidd eL
  have H := hidd h
  rw [← eL] at hle ⊢
  clear h eL
  obtain ⟨m, em⟩ : ∃ m, m = min 3 L := ⟨_, rfl⟩
  have hm1 : m ≤ 3 := by omega
  have hm2 : m ≤ L := by omega
  have hmin : ∀ ts t w, (Builtin.min_ ts t #[.int .i64 3, .int .i64 (L : Int)]).run Try.prog w = .ok (.int .i64 (m : Int)) w := fun ts t w => by
    rw [run_min_int2]
    congr 2
    split <;> omega
  have ER : Hid (runeN l = runD l m) := by
    show _ = _
    unfold runeN; rw [em, EL.out]
  clear em
  go_enter Try.func38, Try.ntmps38
  go_wp2
  go_loopw [3] (fun n w' => ∃ k : Nat, k ≤ m ∧ n = .int .i64 k ∧ Hid (runeN l = runD l k) ∧ Below w.heap.size w w') (fun n _ => (intOf n).toNat)
  case atStart => exact ⟨m, Nat.le_refl _, rfl, ER, Below.refl _ _⟩
  case round =>
    obtain ⟨k, hk, rfl, Hr, hf⟩ := hrel
    by_cases hk0 : 0 < k
    · have hl0 : 0 < l.length := by have := EL.out; omega
      obtain ⟨b, off, rfl, _⟩ := H.out.one hl0
      have ht := H.out.tail (n := L - k) (by have := EL.out; omega)
      have hlen : (l.drop (L - k)).length = L - (L - k) := by rw [List.length_drop, ← EL.out]
      have hcv := conv_str (ht.fresh hf)
      rw [hlen] at hcv
      have HB := hidd (fun w => begR_any (l.drop (L - k)) (by omega) (by omega) w)
      have HS : Hid (runD l k = if runeB (l.drop (L - k)) then k else runD l (k - 1)) := by
        show _ = _
        obtain ⟨k', rfl⟩ : ∃ k', k = k' + 1 := ⟨k - 1, by omega⟩
        rw [runD, EL.out]; rfl
      clear ht hlen
      cases hb : runeB (l.drop (L - k)) with
      | true =>
        rw [hb] at HB HS
        clear hb
        go_wp2_with fail
        refine (HB.out _).mono ?_
        rintro e w1 ⟨rfl, f1⟩
        have f3 := fresh_trans hf f1
        have E : Hid ((k : Int) = (runeN l : Int)) := by
          show _ = _
          rw [Hr.out, HS.out]; simp
        clear hcv
        go_wp2
        go_ret
        exact ⟨ret_int E.out, f3⟩
      | false =>
        rw [hb] at HB HS
        clear hb
        go_wp2_with fail
        refine (HB.out _).mono ?_
        rintro e w1 ⟨rfl, f1⟩
        have f3 := fresh_trans hf f1
        clear hcv
        go_wp2
        go_roundw
        case rel => exact ⟨k - 1, by omega, by go_num, (by show _ = _; rw [Hr.out, HS.out]; simp), f3⟩
        case measure => simp [intOf]; omega
    · obtain rfl : k = 0 := by omega
      have E : Hid ((0 : Int) = (runeN l : Int)) := by
        show _ = _
        rw [Hr.out]; rfl
      go_wp2
      go_ret
      exact ⟨ret_int E.out, hf⟩
end Go.Proofs.Ytlbmgknlbhakoaa
