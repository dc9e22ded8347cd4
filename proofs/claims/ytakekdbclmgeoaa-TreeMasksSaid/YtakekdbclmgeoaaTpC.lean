import Derived.Test.YtakekdbclmgeoaaTpB
namespace Go.Proofs.Ytakekdbclmgeoaa
open Go.RowKit Go.Shelf
attribute [local go_sem] Oper.semAt_some
/-! leaves, and what its function hands over. -/
set_option maxRecDepth 20000 in
set_option maxHeartbeats 3200000 in
theorem leaves_any {w : World} {ao : Option Addr} {n cap : Nat} {P T D : Nat → Int} (ht : okT n P T D) (h : RdA w ao 3 n cap (nds P T D)) :
    Calls Try.prog 38 #[.slice ao n cap] w fun e w' => e = .returned (.func (.func 42) #[] #[.pointer (some ⟨w.heap.size, 0, none⟩), .pointer (some ⟨w.heap.size + 1, 0, none⟩)]) ∧ w'.heap[w.heap.size]? = some (.cells #[.slice ao n cap] 29 (0, 0)) ∧ w'.heap[w.heap.size + 1]? = some (.cells #[.int .u64 ((pbs P (n - 1) : Nat) : Int)] 52 (0, 0)) ∧ Below w.heap.size w w' := by
  have hn1 := ht.1
  have hn2 := ht.2.1
  have hle := h.le
  have hcap : cap ≤ 9223372036854775807 := by have := h.top; unfold maxLen at this; omega
  obtain ⟨b1, o1, rfl, hc⟩ := h.node (by omega)
  have HC := hidd hc
  have HT := hidd ht
  obtain ⟨W0, HW0⟩ : ∃ x, Hid (x = (w.alloc (.cells #[.slice (some ⟨b1, o1, none⟩) n cap] 29)).alloc (.cells #[.int .u64 0] 52)) := ⟨_, rfl⟩
  have HB0 : Hid (Below w.heap.size w W0) := by rw [HW0.out]; exact (fresh_alloc w _).alloc (by simp) _
  have H1 : Hid (W0.heap[w.heap.size]? = some (.cells #[.slice (some ⟨b1, o1, none⟩) n cap] 29 (0, 0))) := by rw [HW0.out]; exact heap_alloc2_old _ _ _
  have H2 : Hid (W0.heap[w.heap.size + 1]? = some (.cells #[.int .u64 0] 52 (0, 0))) := by rw [HW0.out]; exact heap_alloc2_new _ _ _
  have i1 : (1 : Int) ≤ (n : Int) := by omega
  have i2 : (n : Int) ≤ (cap : Int) := by omega
  have q1 : W0.cell? ⟨w.heap.size, 0, none⟩ = some (.slice (some ⟨b1, o1, none⟩) n cap) := by unfold World.cell?; rw [H1.out]; rfl
  clear hc h ht
  go_enter Try.func38, Try.ntmps38
  go_upto_region 2 with fail
  rw [← HW0.out]
  obtain ⟨m, HM⟩ : ∃ m, Hid (m = n - 1) := ⟨_, rfl⟩
  go_cut [6, 7, 8, 9] (fun _ v7 v8 v9 wx => wx = W0 ∧ (∃ x c7, v7 = .slice (some ⟨b1, x, none⟩) m c7 ∧ Hid (1 < n → x = o1 + 3)) ∧ v8 = .int .i64 (m : Int) ∧ v9 = .int .i64 0)
  case first =>
    by_cases c1 : cap = 1
    · subst c1
      obtain rfl : n = 1 := by omega
      obtain rfl : m = 0 := HM.out
      go_wp2_with fail
      go_meet
      case rel => exact ⟨rfl, ⟨_, _, rfl, fun h => absurd h (by omega)⟩, rfl, rfl⟩
    · go_wp2_with fail
      go_meet
      case rel => exact ⟨rfl, ⟨_, _, by rw [HM.out], fun _ => rfl⟩, by rw [HM.out], rfl⟩
  case rest =>
    obtain ⟨hw, ⟨x, c7, h7, HX⟩, h8, h9⟩ := hcut
    subst h7 h8 h9
    rw [hw]
    clear hw wc q1
    go_wp2
    go_loopw [9] (fun vi wr => ∃ k : Nat, k ≤ m ∧ vi = .int .i64 (k : Int) ∧ Hid (wr.heap[w.heap.size]? = some (.cells #[.slice (some ⟨b1, o1, none⟩) n cap] 29 (0, 0))) ∧ Hid (wr.heap[w.heap.size + 1]? = some (.cells #[.int .u64 ((pbs P k : Nat) : Int)] 52 (0, 0))) ∧ Hid (Below w.heap.size w wr)) (fun vi _ => m - (intOf vi).toNat)
    case atStart => exact ⟨0, by omega, rfl, H1, H2, HB0⟩
    case round =>
      obtain ⟨k, hk, rfl, HA1, HA2, HF⟩ := hrel
      by_cases hlt : k < m
      · have hnm : k + 1 < n := by have := HM.out; omega
        obtain rfl : x = o1 + 3 := HX.out (by omega)
        obtain ⟨n1, n2, n3⟩ := HC.out (k + 1) hnm
        rw [show o1 + (k + 1) * 3 = o1 + 3 + k * 3 by omega] at n1 n2 n3
        have l1 := fresh_cell HF.out n1
        have l2 := fresh_cell HF.out n2
        have l3 := fresh_cell HF.out n3
        obtain ⟨p1, p2, _⟩ := HT.out.2.2.2.2 (k + 1) (by omega) hnm
        obtain ⟨p, hp⟩ : ∃ p : Nat, P (k + 1) = (p : Int) := ⟨(P (k + 1)).toNat, by omega⟩
        rw [hp] at l1
        have hp32 : p < 32 := by omega
        obtain ⟨s, HS⟩ : ∃ s, Hid (s = pbs P k) := ⟨_, rfl⟩
        have hs : s < 4294967296 := by rw [HS.out]; exact pbs_lt HT.out k (by omega)
        rw [← HS.out] at HA2
        obtain ⟨c, HCC⟩ : ∃ c, Hid (c = s ||| 2 ^ p) := ⟨_, rfl⟩
        have HNX : Hid (c = pbs P (k + 1)) := by show _ = _; rw [HCC.out, HS.out, pbs, hp]; rfl
        have HWI : Hid (∀ w1, Calls Try.prog 32 #[.agg #[.int .u64 (s : Int)], .int .i64 (p : Int)] w1 fun e w' => e = .returned (.agg #[.int .u64 (c : Int)]) ∧ Below w1.heap.size w1 w') := fun w1 => by rw [HCC.out]; exact with_any s p hp32 hs
        generalize T (k + 1) = y2 at l2
        generalize D (k + 1) = y3 at l3
        have g1 : (k : Int) < (m : Int) := by omega
        have q2 : wr.cell? ⟨w.heap.size + 1, 0, none⟩ = some (.int .u64 (s : Int)) := by unfold World.cell?; rw [HA2.out]; rfl
        have q3 := fresh_cell (fresh_alloc wr (.cells #[.int .i64 (p : Int), .int .i64 y2, .int .i64 y3] 54)) q2
        have HE1 := hidd (fresh_alloc wr (.cells #[.int .i64 (p : Int), .int .i64 y2, .int .i64 y3] 54))
        clear n1 n2 n3 hp p1 p2
        go_wp2_with (first
          | (go_at_call 32; with_reducible refine (HWI.out _).mono ?_; rintro e w2 ⟨rfl, hb2⟩; have HG2 := hidd ((hb2.block (w.heap.size + 1) (by have := lt_of_cell q3; exact this)).trans ((HE1.out.block (w.heap.size + 1) (lt_of_cell q2)).trans HA2.out)); have HG1 := hidd ((hb2.block (w.heap.size) (by have := lt_of_cell q3; omega)).trans ((HE1.out.block (w.heap.size) (by have := lt_of_cell q2; omega)).trans HA1.out)); have HF2 := hidd ((HF.out.trans (HE1.out.mono HF.out.size)).trans (hb2.mono (Nat.le_trans HF.out.size HE1.out.size))); clear hb2)
          | (refine wpList_store_row rfl 52 _ _ rfl (w.heap.size + 1) #[.int .u64 (c : Int)] rfl rfl 52 _ HG2.out (by kernel_rfl) rfl (by simp [Value.oneCell']) ?_))
        clear l1 l2 l3 q2 q3
        go_wp2
        go_roundw
        case rel => exact ⟨k + 1, by omega, by go_num, by show _ = _; rw [setRow_other _ _ _ _ (by omega)]; exact HG1.out, by show _ = _; rw [← HNX.out]; exact setRow_heap _ _ _ _ _ _ HG2.out, below_setRow HF2.out (by omega) _⟩
        case measure => simp [intOf]; omega
      · obtain rfl : k = m := by omega
        go_wp2
        go_ret
        exact ⟨rfl, HA1.out, by rw [← HM.out]; exact HA2.out, HF.out⟩
/-- is it no node's parent? -/
def lfB (n : Nat) (P : Nat → Int) (i : Nat) : Bool := !(pbs P (n - 1)).testBit i
def lvL (n : Nat) (P : Nat → Int) : List Nat := (List.range n).filter (lfB n P)
def lvC (n : Nat) (P : Nat → Int) (i : Nat) : Nat := ((List.range i).filter (lfB n P)).length
theorem lvC_all (n : Nat) (P : Nat → Int) : lvC n P n = (lvL n P).length := rfl
theorem lvC_yes {n : Nat} {P : Nat → Int} {i : Nat} (h : lfB n P i = true) : lvC n P (i + 1) = lvC n P i + 1 := by
  unfold lvC
  rw [List.range_succ, List.filter_append, List.length_append]
  simp [h]
theorem lvC_no {n : Nat} {P : Nat → Int} {i : Nat} (h : lfB n P i = false) : lvC n P (i + 1) = lvC n P i := by
  unfold lvC
  rw [List.range_succ, List.filter_append, List.length_append]
  simp [h]
theorem lv_at {n : Nat} {P : Nat → Int} {i : Nat} (hi : i < n) (h : lfB n P i = true) : lvC n P i < (lvL n P).length ∧ (lvL n P).getD (lvC n P i) 0 = i := by
  obtain ⟨c, rfl⟩ : ∃ c, n = i + 1 + c := ⟨n - i - 1, by omega⟩
  have e : lvL (i + 1 + c) P = (List.range i).filter (lfB (i + 1 + c) P) ++ i :: ((List.range c).map (fun x => i + 1 + x)).filter (lfB (i + 1 + c) P) := by
    unfold lvL
    rw [List.range_add, List.range_succ, List.filter_append, List.filter_append]
    simp [h]
  unfold lvC
  rw [e]
  refine ⟨by rw [List.length_append]; simp, ?_⟩
  rw [List.getD_eq_getElem?_getD, List.getElem?_append_right (Nat.le_refl _)]
  simp
def lvG (n : Nat) (P : Nat → Int) (k : Nat) (args : Array Value) (_ : World) : Prop := args = #[.int .i64 (((lvL n P).getD k 0 : Nat) : Int)]
set_option maxRecDepth 100000 in
set_option maxHeartbeats 4000000 in
theorem lvf_hands {w : World} {ao : Option Addr} {n cap B1 B2 : Nat} {P T D : Nat → Int} {S : Nat → Prop} (ht : okT n P T D) (h1 : w.heap[B1]? = some (.cells #[.slice ao n cap] 29 (0, 0))) (h2 : w.heap[B2]? = some (.cells #[.int .u64 ((pbs P (n - 1) : Nat) : Int)] 52 (0, 0))) (hs2 : ¬ S B2) :
    Hands2 Try.prog 42 #[.pointer (some ⟨B1, 0, none⟩), .pointer (some ⟨B2, 0, none⟩)] (lvL n P).length (lvG n P) (KpC S) w := by
  intro l J Jx W hW _ hJ _ _ hY h0
  have g1 := (hW.block B1 (Array.getElem?_eq_some_iff.1 h1).1).trans h1
  have g2 := (hW.block B2 (Array.getElem?_eq_some_iff.1 h2).1).trans h2
  have hn2 := ht.2.1
  obtain ⟨s, HS⟩ : ∃ s, Hid (s = pbs P (n - 1)) := ⟨_, rfl⟩
  rw [← HS.out] at g2
  have hs : s < 4294967296 := by rw [HS.out]; exact pbs_lt ht (n - 1) (by have := ht.1; omega)
  have c1 : W.cell? ⟨B1, 0, none⟩ = some (.slice ao n cap) := by unfold World.cell?; rw [g1]; rfl
  have HG1 : Hid (∀ V, KpC S W V → V.cell? ⟨B2, 0, none⟩ = some (.int .u64 (s : Int))) := fun V hV => hV.cell hs2 (by unfold World.cell?; rw [g2]; rfl)
  have HJ := hidd hJ
  have HY := hidd hY
  have H0 := hidd h0
  have HHA : Hid (∀ (w1 : World) (i : Nat) (r : Bool), i < n → r = lfB n P i → Calls Try.prog 43 #[.agg #[.int .u64 (s : Int)], .int .i64 (i : Int)] w1 fun e w' => e = .returned (.bool (!r)) ∧ Below w1.heap.size w1 w') := fun w1 i r hi hr => has_any s i (by omega) hs (by rw [hr, HS.out]; unfold lfB; simp)
  clear hJ hY h0 g1 g2 hW ht h1 h2
  refine callsIn_of_wp Try.func42 rfl trivial ?_ rfl
  simp only [Try.ntmps42, List.size_toArray, List.length_cons, List.length_nil, Nat.reduceAdd, Nat.reduceSub, Array.replicate_succ, Array.replicate_zero, List.push_toArray, List.append_toArray, List.nil_append, List.cons_append]
  gi_wp2
  clear c1
  gi_loopw [7] (fun v wr => ∃ i : Nat, i ≤ n ∧ v = .int .i64 (i : Int) ∧ Hid (J (lvC n P i) wr) ∧ Hid (KpC S W wr)) (fun v _ => n - (intOf v).toNat)
  case atStart => exact ⟨0, Nat.zero_le _, rfl, H0, KpC.refl _ _⟩
  case round =>
    obtain ⟨i, hi, rfl, HJi, HK⟩ := hrel
    by_cases hlt : i < n
    · have k1 : decide ((i : Int) < (n : Int)) = true := decide_eq_true (by omega)
      have k2 : decide (i < n) = true := decide_eq_true hlt
      have c2 := HG1.out wr HK.out
      obtain ⟨r, HR⟩ : ∃ r, Hid (r = lfB n P i) := ⟨_, rfl⟩
      have HH1 := hidd (HHA.out wr i r hlt HR.out)
      cases r with
      | false =>
        have HC : Hid (lvC n P (i + 1) = lvC n P i) := lvC_no HR.out.symm
        gi_wp2_with (refine ⟨trivial, ?_⟩; gi_at_call 43; refine (callsIn_wide.2 HH1.out).mono ?_; rintro e' W1 ⟨rfl, f1⟩; have K1 := hidd (HK.out.trans (KpC.of_below f1)); have HJ1 := hidd (HJ.out _ _ _ HJi.out f1); clear f1)
        refine ⟨fun f hf => (by cases hf), ?_⟩
        gi_wp2
        go_roundw
        case rel => exact ⟨i + 1, by omega, by go_num, by show J _ _; rw [HC.out]; exact HJ1.out, K1⟩
        case measure => simp [intOf]; omega
      | true =>
        have HC : Hid (lvC n P (i + 1) = lvC n P i + 1) := lvC_yes HR.out.symm
        obtain ⟨a1, a2⟩ := lv_at hlt HR.out.symm
        have HA1 := hidd a1
        have HA2 : Hid (lvG n P (lvC n P i) #[.int .i64 (i : Int)] wr) := by show _ = _; rw [a2]
        clear a1 a2
        gi_wp2_with (first | (intro f hf; cases hf; done) | (refine ⟨trivial, ?_⟩; gi_at_call 43; refine (callsIn_wide.2 HH1.out).mono ?_; rintro e' W1 ⟨rfl, f1⟩; have K1 := hidd (HK.out.trans (KpC.of_below f1)); have HJ1 := hidd (HJ.out _ _ _ HJi.out f1); obtain ⟨fn, tmps, assign, body, hy, hR⟩ := HY.out _ _ W1 HA1.out HJ1.out HA2.out; clear f1))
        refine hR.mono ?_
        clear hy hR
        rintro e W3 ⟨_, ⟨rfl, hJ3, hk3⟩ | ⟨rfl, hJx3⟩⟩
        · have HJ3 := hidd hJ3
          have HK3 := hidd (K1.out.trans hk3)
          clear hJ3 hk3
          gi_wp2
          go_roundw
          case rel => exact ⟨i + 1, by omega, by go_num, by show J _ _; rw [HC.out]; exact HJ3.out, HK3⟩
          case measure => simp [intOf]; omega
        · gi_wp2
          refine bodyPost_ret (results_none rfl _ _ _) rfl ?_
          exact ⟨⟨_, rfl⟩, .inr ⟨lvC n P i + 1, HA1.out, hJx3⟩⟩
    · obtain rfl : i = n := by omega
      gi_wp2
      go_end0
      exact ⟨⟨_, rfl⟩, .inl HJi.out⟩
end Go.Proofs.Ytakekdbclmgeoaa
