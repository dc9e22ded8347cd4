import Derived.Test.YtlbmgknlbhakoaaTxA
import Derived.Test.YtlbmgknlbhakoaaNgO
import Derived.Test.YtlbmgknlbhakoaaVAll
namespace Go.Proofs.Ytlbmgknlbhakoaa
open Go.RowKit
/-! Stops: HasSuffix, stopEnded, stopBegun, waiting. -/
theorem u8_inj {x y : Int} (hx : 0 ≤ x ∧ x ≤ 255) (hy : 0 ≤ y ∧ y ≤ 255) (h : UInt8.ofNat x.toNat = UInt8.ofNat y.toNat) : x = y := by
  have := congrArg UInt8.toNat h
  simp only [UInt8.toNat_ofNat'] at this
  omega
theorem map_inj : ∀ {a b : List Int}, Byt a → Byt b → a.map (fun n => UInt8.ofNat n.toNat) = b.map (fun n => UInt8.ofNat n.toNat) → a = b
  | [], [], _, _, _ => rfl
  | [], _ :: _, _, _, h => by simp at h
  | _ :: _, [], _, _, h => by simp at h
  | x :: a, y :: b, ha, hb, h => by
    simp only [List.map_cons, List.cons.injEq] at h
    rw [u8_inj (ha x (by simp)) (hb y (by simp)) h.1, map_inj (fun z hz => ha z (by simp [hz])) (fun z hz => hb z (by simp [hz])) h.2]
theorem str_eq {a b : List Int} (ha : Byt a) (hb : Byt b) : ((strOfNums a).toList == (strOfNums b).toList) = decide (a = b) := by
  rw [ByteArray.toList_eq, ByteArray.toList_eq, strOfNums_data, strOfNums_data]
  by_cases h : a = b
  · subst h; simp
  · have : ¬ (a.map (fun n => UInt8.ofNat n.toNat) = b.map (fun n => UInt8.ofNat n.toNat)) := fun e => h (map_inj ha hb e)
    simp [h, this]
theorem beq_any {w : World} {ao bo : Option Addr} {a b : List Int} {ca cb : Nat} (ha : RdA w ao 1 a.length ca (fun j => .int .u8 (a.getD j 0))) (hb : RdA w bo 1 b.length cb (fun j => .int .u8 (b.getD j 0))) (ba : Byt a) (bb : Byt b) :
    Calls Try.prog 48 #[.slice ao a.length ca, .slice bo b.length cb] w fun e w' => e = .returned (.bool (decide (a = b))) ∧ w' = w := by
  have h1 := conv_str ha
  have h2 := conv_str hb
  have he := str_eq ba bb
  go_enter Try.func48, Try.ntmps48
  go_wp2
  go_ret
  simp
set_option maxHeartbeats 1000000 in
theorem hsuf_any {w : World} {ao bo : Option Addr} {t s : List Int} {ca cb : Nat} (ht : RdA w ao 1 t.length ca (fun j => .int .u8 (t.getD j 0))) (hs : RdA w bo 1 s.length cb (fun j => .int .u8 (s.getD j 0))) (bt : Byt t) (bs : Byt s) (h0 : 0 < s.length) :
    Calls Try.prog 43 #[.slice ao t.length ca, .slice bo s.length cb] w fun e w' => e = .returned (.bool (sufB s t)) ∧ w' = w := by
  have n1 := Nat.le_trans ht.le ht.top
  have n2 := Nat.le_trans hs.le hs.top
  have n3 := ht.le
  unfold maxLen at n1 n2
  by_cases hl : s.length ≤ t.length
  · obtain ⟨b, off, rfl, _⟩ := ht.one (by omega)
    have hd := ht.tail (n := t.length - s.length) (by omega)
    have hlen : (t.drop (t.length - s.length)).length = t.length - (t.length - s.length) := List.length_drop
    have H := hidd (beq_any hd hs (bt.drop _) bs)
    rw [hlen] at H
    have E : Hid (decide (t.drop (t.length - s.length) = s) = sufB s t) := by
      show _ = _
      unfold sufB; simp [hl]
    clear ht hs hd hlen
    obtain ⟨L, eL⟩ : ∃ L, L = t.length := ⟨_, rfl⟩
    obtain ⟨M, eM⟩ : ∃ M, M = s.length := ⟨_, rfl⟩
    obtain ⟨X, eX⟩ : ∃ X, X = decide (t.drop (t.length - s.length) = s) := ⟨_, rfl⟩
    rw [← eX] at H E
    rw [← eL, ← eM] at H ⊢
    rw [← eL, ← eM] at hl
    rw [← eL] at n1 n3
    rw [← eM] at n2 h0
    clear eL eM eX
    go_enter Try.func43, Try.ntmps43
    go_wp2_with fail
    refine H.out.mono ?_
    rintro e w1 ⟨rfl, hw⟩
    rw [hw]
    go_wp2
    go_ret
    exact ⟨ret_bool E.out, rfl⟩
  · have E : Hid (false = sufB s t) := by
      show _ = _
      unfold sufB; simp [hl]
    go_enter Try.func43, Try.ntmps43
    go_wp2
    go_ret
    exact ⟨ret_bool E.out, rfl⟩
/-- A list of bytes that is read, its block among K. -/
structure RoL (w : World) (K : Nat → Prop) (ao : Option Addr) (cap : Nat) (l : List Int) : Prop where
  le : l.length ≤ cap
  top : cap ≤ maxLen
  at_ : 0 < l.length → ∃ b off, ao = some ⟨b, off, none⟩ ∧ K b ∧ ∀ j, j < l.length → w.cell? ⟨b, off + j, none⟩ = some (.int .u8 (l.getD j 0))
theorem RoL.rd {w : World} {K : Nat → Prop} {ao : Option Addr} {cap : Nat} {l : List Int} (h : RoL w K ao cap l) : RdA w ao 1 l.length cap (fun j => .int .u8 (l.getD j 0)) :=
  ⟨h.le, h.top, fun h0 => by obtain ⟨b, off, e, _, hc⟩ := h.at_ h0; exact ⟨b, off, e, fun j hj => hc j (by omega)⟩⟩
theorem RoL.chg {w w' : World} {K T : Nat → Prop} {ao : Option Addr} {cap : Nat} {l : List Int} (h : RoL w K ao cap l) (c : Chg w w' T) (hT : ∀ b, K b → ¬ T b) : RoL w' K ao cap l :=
  ⟨h.le, h.top, fun h0 => by obtain ⟨b, off, e, hk, hc⟩ := h.at_ h0; exact ⟨b, off, e, hk, fun j hj => c.cell (hc j hj) (hT b hk)⟩⟩
/-- n lists of bytes that are read. -/
structure RoT (w : World) (K : Nat → Prop) (ao : Option Addr) (n cap : Nat) (f : Nat → List Int) : Prop where
  le : n ≤ cap
  top : cap ≤ maxLen
  at_ : 0 < n → ∃ b off, ao = some ⟨b, off, none⟩ ∧ K b ∧ ∀ i, i < n → ∃ u k, w.cell? ⟨b, off + i, none⟩ = some (.slice u (f i).length k) ∧ RoL w K u k (f i)
theorem RoT.chg {w w' : World} {K T : Nat → Prop} {ao : Option Addr} {n cap : Nat} {f : Nat → List Int} (h : RoT w K ao n cap f) (c : Chg w w' T) (hT : ∀ b, K b → ¬ T b) : RoT w' K ao n cap f :=
  ⟨h.le, h.top, fun h0 => by
    obtain ⟨b, off, e, hk, hc⟩ := h.at_ h0
    refine ⟨b, off, e, hk, fun i hi => ?_⟩
    obtain ⟨u, k, h1, h2⟩ := hc i hi
    exact ⟨u, k, c.cell h1 (hT b hk), h2.chg c hT⟩⟩
theorem RoT.fresh {w w' : World} {K : Nat → Prop} {ao : Option Addr} {n cap : Nat} {f : Nat → List Int} (h : RoT w K ao n cap f) (f' : Below w.heap.size w w') : RoT w' K ao n cap f :=
  h.chg (Chg.of_below (fun _ => False) f') (fun _ _ h => h)
/-- Stops as they may be. -/
structure SOk (sts : List (List Int)) : Prop where
  many : sts.length ≤ 4
  len : ∀ i, i < sts.length → 1 ≤ (sts.getD i []).length ∧ (sts.getD i []).length ≤ 16
  byt : ∀ i, i < sts.length → Byt (sts.getD i [])
set_option maxRecDepth 100000 in
set_option maxHeartbeats 1000000 in
theorem stopE_any {w : World} {S : Nat} {K : Nat → Prop} {so ao : Option Addr} {cs ca : Nat} {sts : List (List Int)} {t : List Int} (hc : w.cell? ⟨S, 1, none⟩ = some (.slice so sts.length cs)) (hst : RoT w K so sts.length cs (fun i => sts.getD i [])) (hok : SOk sts) (ht : RdA w ao 1 t.length ca (fun j => .int .u8 (t.getD j 0))) (bt : Byt t) :
    Calls Try.prog 36 #[.pointer (some ⟨S, 0, none⟩), .slice ao t.length ca] w fun e w' => e = .returned (.int .i64 (endN sts t : Int)) ∧ w' = w := by
  have HST := hidd hst
  have HOK := hidd hok
  have HT := hidd ht
  have BT := hidd bt
  obtain ⟨m, em⟩ : ∃ m, m = sts.length := ⟨_, rfl⟩
  have EM := hidd em
  have hm : m ≤ 4 := by have := hok.many; omega
  obtain ⟨L, eL⟩ : ∃ L, L = t.length := ⟨_, rfl⟩
  have EL := hidd eL
  rw [← em] at hc
  rw [← eL]
  clear hst hok ht bt em eL
  have HE : Hid ((sts.take m).foldl (endF t) 0 = endN sts t) := by show _ = _; rw [EM.out]; exact fo_all sts
  go_enter Try.func36, Try.ntmps36
  go_wp2
  go_loopw [5, 13] (fun l i w' => ∃ k q : Nat, k ≤ m ∧ i = .int .i64 k ∧ l = .int .i64 q ∧ Hid (q = (sts.take k).foldl (endF t) 0) ∧ w' = w) (fun _ i _ => m - (intOf i).toNat)
  case atStart => exact ⟨0, 0, Nat.zero_le _, rfl, rfl, rfl, rfl⟩
  case round =>
    obtain ⟨k, q, hk, rfl, rfl, HQ, rfl⟩ := hrel
    by_cases hlt : k < m
    · obtain ⟨b, off, rfl, hKb, hcs⟩ := HST.out.at_ (by have := EM.out; omega)
      obtain ⟨u, c, h1, h2⟩ := hcs k (by have := EM.out; omega)
      have hl := HOK.out.len k (by have := EM.out; omega)
      have hb := HOK.out.byt k (by have := EM.out; omega)
      have H := hidd (hsuf_any HT.out h2.rd BT.out hb (by omega))
      rw [← EL.out] at H
      have HF : Hid ((sts.take (k + 1)).foldl (endF t) 0 = endF t q (sts.getD k [])) := by
        show _ = _
        rw [fo_succ sts (by have := EM.out; omega), ← HQ.out]
      obtain ⟨s, es⟩ : ∃ s, s = sts.getD k [] := ⟨_, rfl⟩
      rw [← es] at h1 hl H HF
      clear hcs h2 hb es
      have HG : Hid (endF t q s = if sufB s t then max q s.length else q) := rfl
      obtain ⟨X, eX⟩ : ∃ X, X = sufB s t := ⟨_, rfl⟩
      rw [← eX] at H HG
      clear eX
      obtain ⟨M, eM⟩ : ∃ M, M = s.length := ⟨_, rfl⟩
      rw [← eM] at h1 hl H HG
      clear eM
      cases X with
      | true =>
        have hmx : ∀ ts ty w, (Builtin.max_ ts ty #[.int .i64 (q : Int), .int .i64 (M : Int)]).run Try.prog w = .ok (.int .i64 ((max q M : Nat) : Int)) w := fun ts ty w => by
          rw [run_max_int2]
          congr 2
          split <;> omega
        go_wp2_with fail
        refine H.out.mono ?_
        rintro e w1 ⟨rfl, hw⟩
        rw [hw]
        clear hw
        go_wp2
        go_roundw
        case rel => exact ⟨k + 1, max q M, by omega, by go_num, rfl, (by show _ = _; rw [HF.out, HG.out]; simp), trivial⟩
        case measure => simp [intOf]; omega
      | false =>
        go_wp2_with fail
        refine H.out.mono ?_
        rintro e w1 ⟨rfl, hw⟩
        rw [hw]
        clear hw
        go_wp2
        go_roundw
        case rel => exact ⟨k + 1, q, by omega, by go_num, rfl, (by show _ = _; rw [HF.out, HG.out]; simp), trivial⟩
        case measure => simp [intOf]; omega
    · obtain rfl : k = m := by omega
      have E : Hid ((q : Int) = (endN sts t : Int)) := by show _ = _; rw [HQ.out, HE.out]
      go_wp2
      go_ret
      exact ⟨ret_int E.out, rfl⟩
set_option maxRecDepth 100000 in
set_option maxHeartbeats 1000000 in
theorem stopB_any {w : World} {S : Nat} {K : Nat → Prop} {so ao : Option Addr} {cs ca : Nat} {sts : List (List Int)} {t : List Int} (hc : w.cell? ⟨S, 1, none⟩ = some (.slice so sts.length cs)) (hst : RoT w K so sts.length cs (fun i => sts.getD i [])) (hok : SOk sts) (ht : RdA w ao 1 t.length ca (fun j => .int .u8 (t.getD j 0))) (bt : Byt t) :
    Calls Try.prog 37 #[.pointer (some ⟨S, 0, none⟩), .slice ao t.length ca] w fun e w' => e = .returned (.int .i64 (begN sts t : Int)) ∧ w' = w := by
  have HST := hidd hst
  have HOK := hidd hok
  have HT := hidd ht
  have BT := hidd bt
  obtain ⟨m, em⟩ : ∃ m, m = sts.length := ⟨_, rfl⟩
  have EM := hidd em
  have hm : m ≤ 4 := by have := hok.many; omega
  obtain ⟨L, eL⟩ : ∃ L, L = t.length := ⟨_, rfl⟩
  have EL := hidd eL
  rw [← em] at hc
  rw [← eL]
  clear hst hok ht bt em eL
  have HE : Hid ((sts.take m).foldl (begF t) 0 = begN sts t) := by show _ = _; rw [EM.out]; exact fo_all sts
  go_enter Try.func37, Try.ntmps37
  go_wp2
  go_loopw [5, 14] (fun l i w' => ∃ k q : Nat, k ≤ m ∧ q ≤ 15 ∧ i = .int .i64 k ∧ l = .int .i64 q ∧ Hid (q = (sts.take k).foldl (begF t) 0) ∧ w' = w) (fun _ i _ => m - (intOf i).toNat)
  case atStart => exact ⟨0, 0, Nat.zero_le _, Nat.zero_le _, rfl, rfl, rfl, rfl⟩
  case round =>
    obtain ⟨k, q, hk, hq, rfl, rfl, HQ, hw0⟩ := hrel
    rw [hw0]
    clear hw0
    by_cases hlt : k < m
    · obtain ⟨b, off, rfl, hKb, hcs⟩ := HST.out.at_ (by have := EM.out; omega)
      obtain ⟨u, c, h1, h2⟩ := hcs k (by have := EM.out; omega)
      have hl := HOK.out.len k (by have := EM.out; omega)
      have hb := HOK.out.byt k (by have := EM.out; omega)
      have hl3 := Nat.le_trans h2.le h2.top
      have HF : Hid ((sts.take (k + 1)).foldl (begF t) 0 = begF t q (sts.getD k [])) := by
        show _ = _
        rw [fo_succ sts (by have := EM.out; omega), ← HQ.out]
      obtain ⟨s, es⟩ : ∃ s, s = sts.getD k [] := ⟨_, rfl⟩
      rw [← es] at h1 hl HF h2 hb hl3
      clear hcs es
      have HG : Hid (begF t q s = begD s t q (s.length - 1)) := rfl
      obtain ⟨bu, ou, rfl, _⟩ := h2.rd.one (by omega)
      have hcap := h2.le
      have HSF := hidd (fun n (h0 : 0 < n) (hn : n ≤ s.length) => hsuf_any HT.out (h2.rd.head hn) BT.out (hb.take n) (by rw [List.length_take]; omega))
      rw [← EL.out] at HSF
      have HLT : Hid (∀ n, n ≤ s.length → (s.take n).length = n) := fun n hn => by rw [List.length_take]; omega
      obtain ⟨M, eM⟩ : ∃ M, M = s.length := ⟨_, rfl⟩
      rw [← eM] at h1 hl HSF HLT HG hl3 hcap
      clear eM h2 hb
      go_wp2
      go_loopw [5, 8] (fun l i w' => ∃ n p : Nat, n ≤ M - 1 ∧ p ≤ 15 ∧ i = .int .i64 n ∧ l = .int .i64 p ∧ Hid ((p = q ∧ begF t q s = begD s t q n) ∨ (n ≤ p ∧ begF t q s = p)) ∧ w' = w) (fun _ i _ => (intOf i).toNat)
      case atStart => exact ⟨M - 1, q, Nat.le_refl _, hq, by go_num, rfl, .inl ⟨rfl, HG.out⟩, rfl⟩
      case round =>
        obtain ⟨n, p, hn, hp, rfl, rfl, HR, hw0⟩ := hrel
        rw [hw0]
        clear hw0
        by_cases hnp : p < n
        · have h4 := HSF.out n (by omega) (by omega)
          rw [HLT.out n (by omega)] at h4
          have H := hidd h4
          clear h4
          have hpq : p = q := by
            rcases HR.out with ⟨h, _⟩ | ⟨h, _⟩
            · exact h
            · omega
          have HR2 : Hid (begF t q s = begD s t q n) := by
            rcases HR.out with ⟨_, h⟩ | ⟨h, _⟩
            · exact h
            · exact absurd h (by omega)
          have HS2 : Hid (begD s t q n = if sufB (s.take n) t then n else begD s t q (n - 1)) := by
            show _ = _
            obtain ⟨n', rfl⟩ : ∃ n', n = n' + 1 := ⟨n - 1, by omega⟩
            rw [begD, if_neg (by omega)]; rfl
          obtain ⟨X, eX⟩ : ∃ X, X = sufB (s.take n) t := ⟨_, rfl⟩
          rw [← eX] at H HS2
          clear eX
          have EPQ := hidd hpq
          clear hpq HR
          cases X with
          | true =>
            go_wp2_with fail
            refine H.out.mono ?_
            rintro e w1 ⟨rfl, hw⟩
            rw [hw]
            clear hw
            go_wp2
            go_roundw
            case rel => exact ⟨n - 1, n, by omega, by omega, by go_num, rfl, .inr ⟨by omega, by rw [HR2.out, HS2.out]; simp⟩, trivial⟩
            case measure => simp [intOf]; omega
          | false =>
            go_wp2_with fail
            refine H.out.mono ?_
            rintro e w1 ⟨rfl, hw⟩
            rw [hw]
            clear hw
            go_wp2
            go_roundw
            case rel => exact ⟨n - 1, p, by omega, by omega, by go_num, rfl, .inl ⟨EPQ.out, by rw [HR2.out, HS2.out]; simp⟩, trivial⟩
            case measure => simp [intOf]; omega
        · have HP : Hid (p = begF t q s) := by
            show _ = _
            rcases HR.out with ⟨h, h2⟩ | ⟨_, h⟩
            · rw [h2, h]
              cases n with
              | zero => rfl
              | succ n => rw [begD, if_pos (by omega)]
            · exact h.symm
          clear HR
          go_wp2
          go_roundw
          case rel => exact ⟨k + 1, p, by omega, by omega, by go_num, rfl, (by show _ = _; rw [HF.out, HP.out]), trivial⟩
          case measure => simp [intOf]; omega
    · obtain rfl : k = m := by omega
      have E : Hid ((q : Int) = (begN sts t : Int)) := by show _ = _; rw [HQ.out, HE.out]
      go_wp2
      go_ret
      exact ⟨ret_int E.out, rfl⟩
end Go.Proofs.Ytlbmgknlbhakoaa
