import Derived.Test.YtjjfbpjejhjdiabDoorPkE
namespace Go.Proofs.YtjjfbpjejhjdiabDoor
open Go.RowKit
/-! likeliest; what is told of the candidates. -/
def lst (A : List (Int × Int)) (wf : Nat → Int) : List (Int × Int) := (List.range A.length).map fun i => ((A.getD i (0, 0)).1, wf i)
theorem lst_len (A : List (Int × Int)) (wf : Nat → Int) : (lst A wf).length = A.length := by simp [lst]
theorem lst_get {A : List (Int × Int)} {wf : Nat → Int} {k : Nat} (h : k < A.length) : (lst A wf).getD k (0, 0) = ((A.getD k (0, 0)).1, wf k) := by
  unfold lst
  rw [List.getD_eq_getElem?_getD, List.getElem?_map, List.getElem?_range h]
  rfl
theorem lst_take (A : List (Int × Int)) (wf : Nat → Int) (k : Nat) : lst (A.take k) wf = (lst A wf).take k := by
  unfold lst
  rw [← List.map_take, List.take_range, List.length_take, Nat.min_comm]
  refine List.map_congr_left fun i hi => ?_
  have hi : i < min A.length k := by rw [Nat.min_comm]; simpa [Nat.min_comm] using hi
  have : (A.take k).getD i (0, 0) = A.getD i (0, 0) := by rw [List.getD_eq_getElem?_getD, List.getD_eq_getElem?_getD, List.getElem?_take, if_pos (by omega)]
  rw [this]
theorem lst_congr {A : List (Int × Int)} {wf wf' : Nat → Int} (h : ∀ i, i < A.length → wf i = wf' i) : lst A wf = lst A wf' := by
  unfold lst
  exact List.map_congr_left fun i hi => by rw [h i (List.mem_range.1 hi)]
theorem lst_bd {A : List (Int × Int)} {wf : Nat → Int} (h : ∀ i, i < A.length → 0 ≤ wf i ∧ wf i ≤ 65536) : ∀ x ∈ lst A wf, 0 ≤ x.2 ∧ x.2 ≤ 65536 := fun x hx => by
  unfold lst at hx
  obtain ⟨i, hi, rfl⟩ := List.mem_map.1 hx
  exact h i (List.mem_range.1 hi)
theorem lst_wt (temp : Int) (A : List (Int × Int)) : lst A (wfT temp A) = weL temp A := by
  unfold lst weL wfT
  refine List.ext_getElem? fun i => ?_
  rw [List.getElem?_map, List.getElem?_map]
  by_cases h : i < A.length
  · rw [List.getElem?_range h, List.getElem?_eq_getElem h]
    have e1 : A.getD i (0, 0) = A[i] := by rw [List.getD_eq_getElem?_getD, List.getElem?_eq_getElem h]; rfl
    have e2 : A.getD 0 (0, 0) = A.headD (0, 0) := by cases A <;> rfl
    simp only [Option.map_some, e1, e2]
  · rw [List.getElem?_eq_none (by simpa using Nat.le_of_not_lt h), List.getElem?_eq_none (by simpa using Nat.le_of_not_lt h)]
    rfl
theorem pre_lst {A : List (Int × Int)} {wf : Nat → Int} {k : Nat} (h : k < A.length) : pre (lst A wf) (k + 1) = pre (lst A wf) k + wf k := by
  rw [pre_succ _ _ (by rw [lst_len]; exact h), lst_get h]
set_option maxRecDepth 20000 in
set_option maxHeartbeats 1600000 in
theorem likeliest_any (p : Prm) (ok : p.Ok) {w : World} {base c : Nat} {u : Option Addr} {A : List (Int × Int)} {wf : Nat → Int} (h : CL w base u c A wf) (hb : base ≤ w.heap.size) (hn : A.length ≤ 1048576) (hwf : ∀ i, i < A.length → 0 ≤ wf i ∧ wf i ≤ 65536) :
    Calls Tryd.prog 62 #[.agg #[.int .i64 p.temp, .int .i64 p.topk, .int .i64 p.topp, .int .i64 p.pen, .int .u64 (p.seed : Int)], .slice u A.length c] w fun e w' => ∃ m, Hid (m = cutN (goalOf p.topp (lst A wf)) (lst A wf)) ∧ e = .returned (.slice u (A.take m).length c) ∧ CL w' base u c (A.take m) wf ∧ Below base w w' ∧ Gw w w' u := by
  have fr := fresh_alloc w (.cells #[.int .i64 p.temp, .int .i64 p.topk, .int .i64 p.topp, .int .i64 p.pen, .int .u64 (p.seed : Int)] 24)
  have hles := Own.les h
  have p0 := ok.p0
  have p1 := ok.p1
  have HL := hidd (CL.kept h fr)
  have cp : (w.alloc (.cells #[.int .i64 p.temp, .int .i64 p.topk, .int .i64 p.topp, .int .i64 p.pen, .int .u64 (p.seed : Int)] 24)).cell? ⟨w.heap.size, 2, none⟩ = some (.int .i64 p.topp) := by simp
  have hbd := lst_bd hwf
  have hlen := lst_len A wf
  have hG := goal_le (tp := p.topp) hbd p1
  have hS := pre_bd hbd (k := A.length) (by omega)
  have HP : Hid (∀ k, k < A.length → pre (lst A wf) (k + 1) = pre (lst A wf) k + wf k) := fun k hk => pre_lst hk
  have HB : Hid (∀ k, k ≤ A.length → 0 ≤ pre (lst A wf) k ∧ pre (lst A wf) k ≤ 68719476736) := fun k hk => by
    have := pre_bd hbd (k := k) (by omega)
    omega
  have HW := hidd hwf
  have HS : Hid (∀ k, k ≤ A.length → (∀ j, j < k → pre (lst A wf) j * 1000 < p.topp * pre (lst A wf) A.length) → ¬ pre (lst A wf) k * 1000 < p.topp * pre (lst A wf) A.length → k = cutN (goalOf p.topp (lst A wf)) (lst A wf)) := fun k hk h1 h2 => by
    refine (cutN_eq ⟨by omega, ?_, ?_⟩).symm
    · unfold goalOf; rw [hlen]; exact h1
    · unfold goalOf; rw [hlen]; omega
  have hE : ¬ pre (lst A wf) A.length * 1000 < p.topp * pre (lst A wf) A.length := by
    unfold goalOf at hG
    rw [hlen] at hG
    omega
  have hGb : 0 ≤ p.topp * pre (lst A wf) A.length ∧ p.topp * pre (lst A wf) A.length ≤ 68719476736000 := by
    constructor
    · exact Int.mul_nonneg (by omega) hS.1
    · unfold goalOf at hG
      rw [hlen] at hG
      have := HB.out A.length (Nat.le_refl _)
      omega
  have wG : IntKind.i64.wrap (p.topp * pre (lst A wf) A.length) = p.topp * pre (lst A wf) A.length := by rw [IntKind.wrap_i64]; omega
  have HE := hidd hE
  clear h hwf hbd hG hE
  have hP0 : pre (lst A wf) 0 = 0 := pre_zero _
  generalize lst A wf = L at *
  generalize hSS : pre L A.length = S at *
  generalize hGG : p.topp * S = G at *
  have HSS := hidd hSS
  have HGG := hidd hGG
  clear hSS
  go_enter Tryd.func62, Tryd.ntmps62
  go_wp2
  go_loopw [5, 12] (fun v i wr => ∃ k : Nat, k ≤ A.length ∧ i = .int .i64 (k : Int) ∧ v = .int .i64 (pre L k) ∧ Below (w.heap.size + 1) (w.alloc (.cells #[.int .i64 p.temp, .int .i64 p.topk, .int .i64 p.topp, .int .i64 p.pen, .int .u64 (p.seed : Int)] 24)) wr) (fun _ i _ => A.length - (intOf i).toNat)
  case atStart => exact ⟨0, Nat.zero_le _, by simp, by rw [hP0], Below.refl _ _⟩
  case round =>
    obtain ⟨k, hk, rfl, rfl, hw⟩ := hrel
    have hw' : Below (w.alloc (.cells #[.int .i64 p.temp, .int .i64 p.topk, .int .i64 p.topp, .int .i64 p.pen, .int .u64 (p.seed : Int)] 24)).heap.size (w.alloc (.cells #[.int .i64 p.temp, .int .i64 p.topk, .int .i64 p.topp, .int .i64 p.pen, .int .u64 (p.seed : Int)] 24)) wr := by rw [World.size_alloc]; exact hw
    have hsz := hw.size
    rw [World.size_alloc] at hsz
    have HC := hidd (HL.out.kept hw')
    have ct := fresh_cell hw' cp
    by_cases hlt : k < A.length
    · obtain ⟨g, rfl, g1, g2, g3, g4⟩ := CL.cells HC.out (by omega)
      obtain ⟨d0, d1, d2⟩ := g3 k hlt
      have b1 := HW.out k hlt
      have b2 := HB.out k hk
      have hs := HP.out k hlt
      clear g3 g4 cp
      generalize (A.getD k (0, 0)).1 = tk at *
      generalize (A.getD k (0, 0)).2 = sk at *
      have HQ := hidd hs
      have i0 : (0 : Int) ≤ (k : Int) := by omega
      have i1 : (k : Int) < (A.length : Int) := by omega
      go_wp2
      go_roundw
      case rel => exact ⟨k + 1, by omega, by go_num, by rw [HQ.out], hw.alloc hsz _⟩
      case measure => simp [intOf]; omega
    · obtain rfl : k = A.length := by omega
      rw [HSS.out]
      go_wp2
      go_loopw [8, 9] (fun v i wz => ∃ k : Nat, k ≤ A.length ∧ i = .int .i64 (k : Int) ∧ v = .int .i64 (pre L k) ∧ Hid (∀ j, j < k → pre L j * 1000 < G) ∧ wz = wr) (fun _ i _ => A.length - (intOf i).toNat)
      case atStart => exact ⟨0, Nat.zero_le _, by simp, by rw [hP0], fun j hj => absurd hj (by omega), rfl⟩
      case round =>
        obtain ⟨k, hk2, rfl, rfl, HJ, rfl⟩ := hrel
        have b2 := HB.out k hk2
        by_cases q : pre L k * 1000 < G
        · have hlt : k < A.length := by
            by_cases e : k = A.length
            · rw [e, HSS.out] at q
              exact absurd q (by have := HE.out; omega)
            · omega
          obtain ⟨g, rfl, g1, g2, g3, g4⟩ := CL.cells HC.out (by omega)
          obtain ⟨d0, d1, d2⟩ := g3 k hlt
          have b1 := HW.out k hlt
          have hs := HP.out k hlt
          clear g3 g4 cp
          have HQ := hidd hs
          have HQ2 := hidd q
          have i0 : (0 : Int) ≤ (k : Int) := by omega
          have i1 : (k : Int) < (A.length : Int) := by omega
          rw [← HGG.out] at q wG
          go_wp2
          go_roundw
          case rel => exact ⟨k + 1, by omega, by go_num, by rw [HQ.out], fun j hj => (by
            by_cases e : j = k
            · rw [e]; exact HQ2.out
            · exact HJ.out j (by omega)), by first | rfl | trivial⟩
          case measure => simp [intOf]; omega
        · have HM := hidd (HS.out k hk2 HJ.out (by first | exact q | omega))
          have hkc : k ≤ c := by omega
          rw [← HGG.out] at q wG
          go_wp2
          go_ret
          have h9 := HC.out.take (k := k) hk2
          refine ⟨k, HM.out, ?_, h9, (fr.mono hb).trans (hw.mono (by omega)), (Gw.of_fresh fr).trans (Gw.of_fresh hw')⟩
          first | (rw [List.length_take, Nat.min_eq_left hk2]; rfl) | (rw [Nat.min_eq_left hk2]; rfl)
end Go.Proofs.YtjjfbpjejhjdiabDoor
