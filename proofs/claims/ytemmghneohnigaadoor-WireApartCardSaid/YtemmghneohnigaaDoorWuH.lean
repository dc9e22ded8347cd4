import Derived.Test.YtemmghneohnigaaDoorWuG
import Derived.Test.YtemmghneohnigaaDoorWqE
namespace Go.Proofs.YtemmghneohnigaaDoor
open Go.RowKit
/-! The reference's Unquote, walked. -/
set_option maxRecDepth 20000 in
theorem value_any {c : Int} (h0 : 0 ≤ c) (h1 : c ≤ 255) (w : World) : Calls Tryd.prog 27 #[.int .u8 c] w fun e w' => e = .returned (.int .u8 (valR c)) ∧ w' = w := by
  by_cases h : 97 ≤ c
  · have E : Hid (valR c = IntKind.u8.wrap (IntKind.u8.wrap (c - 97) + 10)) := by show _ = _; unfold valR; rw [if_pos h]
    rw [E.out]
    go_enter Tryd.func27, Tryd.ntmps27
    go_wp2
    go_ret
    exact ⟨ret_int (by rw [IntKind.wrap_u8', IntKind.wrap_u8']; omega), rfl⟩
  · have E : Hid (valR c = IntKind.u8.wrap (c - 48)) := by show _ = _; unfold valR; rw [if_neg h]
    rw [E.out]
    go_enter Tryd.func27, Tryd.ntmps27
    go_wp2
    go_ret
    exact ⟨ret_int (by rw [IntKind.wrap_u8']; try omega), rfl⟩
/-- what the loop keeps -/
structure LrI (w wr : World) (t : List Int) (k : Nat) (L : List Int) (out : Value) : Prop where
  lr : Lr t k L
  own : Own wr w.heap.size 5 1 out L.length (byc L)
  low : Below w.heap.size w wr
theorem LrI.app {w w5 : World} {t : List Int} {k : Nat} {L : List Int} {c : Int} {v5 : Value} (hr : Lr t k (L ++ [c])) (ho : Own w5 w.heap.size 5 1 v5 (L.length + 1) (byc (L ++ [c]))) (hl : Below w.heap.size w w5) : LrI w w5 t k (L ++ [c]) v5 :=
  ⟨hr, by rw [List.length_append]; exact ho, hl⟩
theorem own_ext {w : World} {base : Nat} {v : Value} {L : List Int} (c : Int) (h : Own w base 5 1 v L.length (byc L)) : Own w base 5 1 v L.length (byc (L ++ [c])) := h.congr (fun j hj => by
  unfold byc
  rw [Nat.mul_one] at hj
  simp [List.getD_eq_getElem?_getD, List.getElem?_append_left hj])
theorem byc_last (L : List Int) (c : Int) : byc (L ++ [c]) L.length = .int .u8 c := by
  unfold byc
  simp [List.getD_eq_getElem?_getD]
set_option maxRecDepth 20000 in
set_option maxHeartbeats 4000000 in
theorem runq_any {t : List Int} (ht : Byt t) (hl : t.length ≤ 35184372080000) (w : World) :
    Calls Tryd.prog 13 #[.string (strOfNums t)] w fun e w' => UqO t w w' e ∧ Below w.heap.size w w' := by
  have HT := hidd ht
  obtain ⟨s, es⟩ : ∃ s, s = strOfNums t := ⟨_, rfl⟩
  have ES := hidd es
  have hsz : s.size = t.length := by rw [es]; exact strOfNums_size t
  rw [← es]
  clear es ht
  obtain ⟨n, en⟩ : ∃ n, n = t.length := ⟨_, rfl⟩
  have EN := hidd en
  rw [← en] at hl hsz
  clear en
  have HAT : Hid (∀ k, k < n → ∀ h, (s[k]'h).toNat = (t.getD k 0).toNat) := by
    show ∀ k, k < n → ∀ h, (s[k]'h).toNat = (t.getD k 0).toNat
    rw [ES.out]
    intro k hk h
    exact str_at HT.out (by rw [← EN.out]; exact hk) h
  have HX : Hid (∀ k, k < n → ∃ X : Nat, t.getD k 0 = (X : Int) ∧ X ≤ 255) := fun k hk => by
    have := byt_get HT.out (i := k) (by rw [← EN.out]; exact hk)
    exact ⟨(t.getD k 0).toNat, by omega, by omega⟩
  go_enter Tryd.func13, Tryd.ntmps13
  go_wp2
  go_loopw [5, 6] (fun out at_ wr => ∃ (k : Nat) (L : List Int), at_ = .int .i64 (k : Int) ∧ Hid (LrI w wr t k L out)) (fun _ at_ _ => n - (intOf at_).toNat)
  case atStart => exact ⟨1, [], rfl, ⟨.start, own_nil _ _ _ _ _, Below.refl _ _⟩⟩
  case round =>
    obtain ⟨k, L, rfl, hI⟩ := hrel
    obtain ⟨hBL, hk1, hk2, hLk⟩ := hI.out.lr.bd HT.out
    rw [← EN.out] at hk2
    have HBL := hidd hBL
    have hzr := hI.out.low.size
    have j0 : (0 : Int) ≤ (k : Int) := Int.natCast_nonneg _
    by_cases hend : k < n ∧ t.getD k 0 ≠ 34
    · obtain ⟨hkn, h34⟩ := hend
      obtain ⟨X, eX, hX⟩ := HX.out k hkn
      have hax : ∀ h, (s[k]'h).toNat = X := fun h => by rw [HAT.out k hkn h, eX]; simp
      have b1 : decide ((k : Int) < (n : Int)) = true := by simp; omega
      have b34 : ((X : Int) == 34) = false := by
        rw [eX] at h34
        simpa using h34
      have b34' : (X == 34) = false := by
        rw [eX] at h34
        simp
        omega
      by_cases h92 : X = 92
      · subst h92
        by_cases hh : k + 3 < n ∧ t.getD (k + 1) 0 = 120
        · obtain ⟨h3, h120⟩ := hh
          obtain ⟨Y2, eY2, hY2⟩ := HX.out (k + 2) (by omega)
          obtain ⟨Y3, eY3, hY3⟩ := HX.out (k + 3) (by omega)
          have ha1 : ∀ h, (s[k + 1]'h).toNat = 120 := fun h => by rw [HAT.out (k + 1) (by omega) h, h120]; rfl
          obtain ⟨K2, eK2⟩ : ∃ K2, K2 = k + 2 := ⟨_, rfl⟩
          obtain ⟨K3, eK3⟩ : ∃ K3, K3 = k + 3 := ⟨_, rfl⟩
          have ha2 : ∀ h, (s[K2]'h).toNat = Y2 := fun h => by subst eK2; rw [HAT.out (k + 2) (by omega) h, eY2]; simp
          have ha3 : ∀ h, (s[K3]'h).toNat = Y3 := fun h => by subst eK3; rw [HAT.out (k + 3) h3 h, eY3]; simp
          have w2 : IntKind.i64.wrap ((k : Int) + 2) = (K2 : Int) := by rw [IntKind.wrap_i64]; omega
          have w3 : IntKind.i64.wrap ((k : Int) + 3) = (K3 : Int) := by rw [IntKind.wrap_i64]; omega
          have j2 : (K2 : Int) < (n : Int) := by omega
          have j3 : (K3 : Int) < (n : Int) := by omega
          have j2' : K2 < n := by omega
          have j3' : K3 < n := by omega
          clear eK2 eK3
          have HV2 := hidd (fun w => value_any (c := (Y2 : Int)) (by omega) (by omega) w)
          have HV3 := hidd (fun w => value_any (c := (Y3 : Int)) (by omega) (by omega) w)
          have HR : Hid (Lr t (k + 4) (L ++ [hexR (Y2 : Int) (Y3 : Int)])) := by
            have := Lr.hex hI.out.lr (by rw [← EN.out]; exact h3) eX h120
            rw [eY2, eY3] at this
            exact this
          have hv2 := valR_bd (Y2 : Int)
          have hv3 := valR_bd (Y3 : Int)
          have HXD : Hid (IntKind.u8.wrap (IntKind.u8.wrap ((valR (Y2 : Int)).tmod 16 * 16) + (valR (Y3 : Int)).tmod 16) = hexR (Y2 : Int) (Y3 : Int)) := by
            show _ = _
            rw [Int.tmod_eq_emod_of_nonneg hv2.1, Int.tmod_eq_emod_of_nonneg hv3.1, IntKind.wrap_u8', IntKind.wrap_u8']
            unfold hexR
            omega
          generalize valR (Y2 : Int) = V2 at *
          generalize valR (Y3 : Int) = V3 at *
          generalize hexR (Y2 : Int) (Y3 : Int) = C at *
          have HC := hidd (own_ext C hI.out.own)
          have HNB := hidd (byc_last L C)
          have HL := hidd hI.out.low
          have c1 : decide ((k : Int) + 3 < (n : Int)) = true := by simp; omega
          have i1 : (k : Int) + 1 < (s.size : Int) := by omega
          obtain ⟨V2a, V2b⟩ := hv2
          obtain ⟨V3a, V3b⟩ := hv3
          have HNC : Hid (∀ (w0 : World) (x : Int), x = C → (w0.alloc (.cells #[.int .u8 x] 5)).cell? ⟨w0.heap.size, 0, none⟩ = some (byc (L ++ [C]) L.length)) := fun w0 x ex => by rw [HNB.out, ex]; exact new_cell _ _ _
          clear hI h34 eX eY2 eY3 h120
          go_upto_region 8 with fail
          go_region_law (first
            | (go_simp; go_at_call 27; first | (with_reducible refine (HV2.out _).mono ?_; rintro e w' ⟨rfl, hw'⟩; rw [hw']; clear hw') | (with_reducible refine (HV3.out _).mono ?_; rintro e w' ⟨rfl, hw'⟩; rw [hw']; clear hw'))
            | (refine step_app1 _ (by rfl) _ _ _ (by rfl) w.heap.size 5 (.int .u8 0) 1 Tryd.underlying22 infoB rfl _ L.length (byc (L ++ [C])) (by rfl) (HC.out.kept ((Below.refl _ _).drew.alloc (Nat.le_refl _) _)) wr.heap.size 1 (by rfl) (HNC.out _ _ HXD.out) (by rw [HNB.out]; rfl) (by omega) (by omega) (by simp; omega) ?_; intro g' cap' w5 ho5 ha5))
          all_goals
            have hl5 := ha5.below (HL.out.drew.alloc hzr _) (HC.out.kept ((Below.refl _ _).drew.alloc (Nat.le_refl _) _)) (Nat.le_refl _) (by simp; omega)
            have HN := hidd (LrI.app HR.out ho5 hl5)
            clear ha5 ho5 hl5
            go_wp2
            go_roundw
            case rel => exact ⟨k + 4, L ++ [C], by go_num, HN.out⟩
            case measure => simp [intOf]; omega
        · by_cases h1 : k + 1 < n
          · obtain ⟨Y, eY, hY⟩ := HX.out (k + 1) h1
            have ha1 : ∀ h, (s[k + 1]'h).toNat = Y := fun h => by rw [HAT.out (k + 1) h1 h, eY]; simp
            have HC := hidd (own_ext (Y : Int) hI.out.own)
            have HNB := hidd (byc_last L (Y : Int))
            have HR : Hid (Lr t (k + 2) (L ++ [(Y : Int)])) := by
              have := Lr.quo hI.out.lr (by rw [← EN.out]; exact h1) eX (by rw [← EN.out]; exact hh)
              rw [eY] at this
              exact this
            have HL := hidd hI.out.low
            have c2 : decide ((k : Int) + 1 < (n : Int)) = true := by simp; omega
            have i1 : (k : Int) + 1 < (s.size : Int) := by omega
            have key : decide ((k : Int) + 3 < (n : Int)) = false ∨ (decide ((k : Int) + 3 < (n : Int)) = true ∧ ((Y : Int) == 120) = false ∧ (Y == 120) = false) := by
              by_cases h3 : k + 3 < n
              · right
                have : (Y : Int) ≠ 120 := fun e => hh ⟨h3, by rw [eY]; exact e⟩
                exact ⟨by simp; omega, by simpa using this, by simp; omega⟩
              · left
                simp; omega
            clear hI h34 eX eY hh
            rcases key with c1 | ⟨c1, y1, y2⟩
            all_goals
              go_wp2_with (at_builtin; refine wpList_app1 _ rfl _ _ 22 rfl w.heap.size 5 (.int .u8 0) 1 Tryd.underlying22 infoB rfl _ L.length (byc (L ++ [(Y : Int)])) rfl (HC.out.kept (fresh_alloc _ _)) _ 1 rfl (by rw [HNB.out]; exact new_cell _ _ _) (by rw [HNB.out]; rfl) (by omega) (by omega) (by simp; omega) ?_)
              intro v5 w5 ho5 ha5
              have hl5 := ha5.below (HL.out.alloc hzr _) (HC.out.kept (fresh_alloc _ _)) (Nat.le_refl _) (by simp; omega)
              have HN := hidd (LrI.app HR.out ho5 hl5)
              clear ha5 ho5 hl5
              go_wp2
              go_roundw
              case rel => exact ⟨k + 2, L ++ [(Y : Int)], by go_num, HN.out⟩
              case measure => simp [intOf]; omega
          · have HN : Hid (LrI w wr t (k + 1) L _) := ⟨Lr.one hI.out.lr (by rw [← EN.out]; exact hkn) eX (by rw [← EN.out]; exact h1), hI.out.own, hI.out.low⟩
            have c1 : decide ((k : Int) + 3 < (n : Int)) = false := by simp; omega
            have c2 : decide ((k : Int) + 1 < (n : Int)) = false := by simp; omega
            clear hI h34 eX hh
            go_wp2
            go_roundw
            case rel => exact ⟨k + 1, L, by go_num, HN.out⟩
            case measure => simp [intOf]; omega
      · have b92 : ((X : Int) == 92) = false := by simp; omega
        have b92' : (X == 92) = false := by simp; omega
        have HC := hidd (own_ext (X : Int) hI.out.own)
        have HNB := hidd (byc_last L (X : Int))
        have HR : Hid (Lr t (k + 1) (L ++ [(X : Int)])) := by
          have := Lr.own hI.out.lr (by rw [← EN.out]; exact hkn) h34 (by rw [eX]; omega)
          rw [eX] at this
          exact this
        have HL := hidd hI.out.low
        clear hI h34 eX
        go_wp2_with (at_builtin; refine wpList_app1 _ rfl _ _ 22 rfl w.heap.size 5 (.int .u8 0) 1 Tryd.underlying22 infoB rfl _ L.length (byc (L ++ [(X : Int)])) rfl (HC.out.kept (fresh_alloc _ _)) _ 1 rfl (by rw [HNB.out]; exact new_cell _ _ _) (by rw [HNB.out]; rfl) (by omega) (by omega) (by simp; omega) ?_)
        intro v5 w5 ho5 ha5
        have hl5 := ha5.below (HL.out.alloc hzr _) (HC.out.kept (fresh_alloc _ _)) (Nat.le_refl _) (by simp; omega)
        have HN := hidd (LrI.app HR.out ho5 hl5)
        clear ha5 ho5 hl5
        go_wp2
        go_roundw
        case rel => exact ⟨k + 1, L ++ [(X : Int)], by go_num, HN.out⟩
        case measure => simp [intOf]; omega
    · obtain ⟨ao, cp, rfl, hrd⟩ := hI.out.own.rd
      have HQ := hidd (rquote_any hrd HBL.out (by omega))
      have HL := hidd hI.out.low
      have HOW := hidd hI.out.own
      have HEND : Hid (∀ b, UnqP t b → L = b) := fun b hb => lr_end hb hI.out.lr (by rw [← EN.out]; exact hend)
      have hBl := lit_byt HBL.out
      have zB : (strOfNums (lit L)).size = (lit L).length := strOfNums_size _
      have hpl := pies_len L
      have hll := lit_len L
      have key : (decide ((k : Int) < (n : Int)) = false ∧ decide (k < n) = false ∧ ¬ k < n) ∨ (decide ((k : Int) < (n : Int)) = true ∧ k < n ∧ ∀ h, (s[k]'h).toNat = 34) := by
        by_cases hkn : k < n
        · right
          have : t.getD k 0 = 34 := by
            by_cases e : t.getD k 0 = 34
            · exact e
            · exact absurd ⟨hkn, e⟩ hend
          exact ⟨by simp; omega, hkn, fun h => by rw [HAT.out k hkn h, this]; rfl⟩
        · left
          exact ⟨by simp; omega, by simp; omega, hkn⟩
      clear hI hend
      have hlb : (lit L).length ≤ 140737488351232 := by omega
      clear hll hpl
      by_cases hle : (lit L).length ≤ n
      · have hx := str_ext t 0 (lit L).length
        rw [List.drop_zero, ← ES.out] at hx
        have he := str_eq hBl (HT.out.take (lit L).length)
        have d1 : decide ((n : Int) < ((lit L).length : Int)) = false := by simp; omega
        have d2 : decide (n < (lit L).length) = false := by simp; omega
        by_cases hp : lit L = t.take (lit L).length
        · have HU : Hid (UnqP t L) := ⟨HBL.out, List.prefix_iff_eq_take.2 hp⟩
          simp only [← hp, decide_true] at he hx
          clear hp
          obtain ⟨LL, eLL⟩ : ∃ LL, (lit L).length = LL := ⟨_, rfl⟩
          have HLL := hidd eLL
          rw [eLL] at hx zB hle d1 d2 hlb
          clear eLL
          generalize strOfNums (lit L) = sl at *
          rcases key with ⟨c1, c2, c3⟩ | ⟨c1, c2, c3⟩
          all_goals
            go_wp2_with (go_at_call 28; with_reducible refine (HQ.out).mono ?_; rintro e w2 ⟨rfl, hf2⟩)
            go_ret3
            exact ⟨.inl ⟨L, ao, cp, HU.out, by rw [HLL.out]; rfl, HOW.out.kept hf2⟩, fresh_trans HL.out hf2⟩
        · have HN : Hid (¬ ∃ b, UnqP t b) := fun ⟨b, hb⟩ => by
            obtain rfl := HEND.out b hb
            exact hp (List.prefix_iff_eq_take.1 hb.2)
          simp only [hp, decide_false] at he
          clear hp
          generalize strOfNums (t.take (lit L).length) = st at *
          generalize (lit L).length = LL at *
          generalize strOfNums (lit L) = sl at *
          rcases key with ⟨c1, c2, c3⟩ | ⟨c1, c2, c3⟩
          all_goals
            go_wp2_with (go_at_call 28; with_reducible refine (HQ.out).mono ?_; rintro e w2 ⟨rfl, hf2⟩)
            go_ret3
            exact ⟨.inr ⟨HN.out, rfl⟩, fresh_trans HL.out hf2⟩
      · have HN : Hid (¬ ∃ b, UnqP t b) := fun ⟨b, hb⟩ => by
          obtain rfl := HEND.out b hb
          have := hb.2.length_le
          rw [← EN.out] at this
          exact hle this
        have d1 : decide ((n : Int) < ((lit L).length : Int)) = true := by simp; omega
        have d2 : decide (n < (lit L).length) = true := by simp; omega
        generalize (lit L).length = LL at *
        generalize strOfNums (lit L) = sl at *
        rcases key with ⟨c1, c2, c3⟩ | ⟨c1, c2, c3⟩
        all_goals
          go_wp2_with (go_at_call 28; with_reducible refine (HQ.out).mono ?_; rintro e w2 ⟨rfl, hf2⟩)
          go_ret3
          exact ⟨.inr ⟨HN.out, rfl⟩, fresh_trans HL.out hf2⟩
theorem runq_ok {t b : List Int} (ht : Byt t) (hl : t.length ≤ 35184372080000) (hb : UnqP t b) (w : World) :
    Calls Tryd.prog 13 #[.string (strOfNums t)] w fun e w' => ∃ ao cap, e = .returned (.tuple #[.slice ao b.length cap, .int .i64 ((lit b).length : Int), .int .i64 0]) ∧ Own w' w.heap.size 5 1 (.slice ao b.length cap) b.length (byc b) ∧ Below w.heap.size w w' :=
  (runq_any ht hl w).mono (by
    rintro e w' ⟨⟨b', ao, cap, h, rfl, ho⟩ | ⟨h, _⟩, hf⟩
    · obtain rfl := hb.uniq h
      exact ⟨ao, cap, rfl, ho, hf⟩
    · exact absurd ⟨b, hb⟩ h)
theorem runq_bad {t : List Int} (ht : Byt t) (hl : t.length ≤ 35184372080000) (hb : ¬ ∃ b, UnqP t b) (w : World) :
    Calls Tryd.prog 13 #[.string (strOfNums t)] w fun e w' => e = .returned (.tuple #[.slice none 0 0, .int .i64 0, .int .i64 220]) ∧ Below w.heap.size w w' :=
  (runq_any ht hl w).mono (by
    rintro e w' ⟨⟨b', ao, cap, h, rfl, ho⟩ | ⟨h, rfl⟩, hf⟩
    · exact absurd ⟨b', h⟩ hb
    · exact ⟨rfl, hf⟩)
end Go.Proofs.YtemmghneohnigaaDoor
