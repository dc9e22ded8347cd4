import Derived.Test.YtaalinlggjimcaaXK
namespace Go.Proofs.Ytaalinlggjimcaa
open Go.RowKit
/-! Find. -/
/-- the pieces of a text -/
def pcL (t : Nat → Int) (S m : Nat) : List (List Int) := (List.range m).map (fun i => (List.range 16).map (fun j => cutI t S (i * 16 + j)))
theorem pcL_len (t : Nat → Int) (S m : Nat) : (pcL t S m).length = m := by simp [pcL]
theorem pcL_take (t : Nat → Int) (S : Nat) {k m : Nat} (h : k ≤ m) : (pcL t S m).take k = pcL t S k := by
  unfold pcL
  rw [← List.map_take, List.take_range, Nat.min_eq_left h]
theorem pcL_get (t : Nat → Int) (S : Nat) {i m : Nat} (h : i < m) : (pcL t S m).getD i [] = (List.range 16).map (fun j => cutI t S (i * 16 + j)) := by
  unfold pcL
  rw [List.getD_eq_getElem?_getD, List.getElem?_map, List.getElem?_range h]; rfl
theorem pcL_pc {t : Nat → Int} {S T m : Nat} (ht : ∀ i, i < T → fits (t i)) (hm : m * S ≤ T) : ∀ p ∈ pcL t S m, Pc p := by
  intro p hp
  unfold pcL at hp
  obtain ⟨i, hi, rfl⟩ := List.mem_map.1 hp
  have hi := List.mem_range.1 hi
  refine ⟨by simp, fun x hx => ?_⟩
  obtain ⟨j, hj, rfl⟩ := List.mem_map.1 hx
  have hj := List.mem_range.1 hj
  unfold cutI
  rw [show (i * 16 + j) / 16 = i by omega, show (i * 16 + j) % 16 = j by omega]
  split
  · rename_i h
    refine ht _ ?_
    have := Nat.mul_le_mul_right S (show i + 1 ≤ m from hi)
    rw [Nat.add_mul] at this
    omega
  · unfold fits; omega
theorem pcL_text {w : World} {g : Nat} {t : Nat → Int} {S T m : Nat} (ht : ∀ i, i < T → fits (t i)) (hm : m * S ≤ T) (hr : w.rowIs g 73 (m * 16) (cutF t S)) : TextAt w g (pcL t S m) := by
  refine ⟨fun j hj => ?_, pcL_pc ht hm⟩
  rw [pcL_len] at hj
  rw [hr.cell hj]
  unfold textF cutF
  rw [pcL_get t S (show j / 16 < m by omega), List.getD_eq_getElem?_getD, List.getElem?_map, List.getElem?_range (show j % 16 < 16 by omega)]
  simp only [Option.map_some, Option.getD_some]
  rw [show j / 16 * 16 + j % 16 = j by omega]
/-- no known one is longer than there are known ones -/
theorem Well.tops {c : Ca} {L : List Nd} {N : Nat} (hw : Well c L N) : ∀ (n : Nat) (x : Nd), x ∈ L → x.path.length = n → ∀ k, 0 < k → k ≤ n → ∃ y ∈ L, y.path = x.path.take k
  | 0, x, hx, e, k, h1, h2 => by omega
  | n + 1, x, hx, e, k, h1, h2 => by
    by_cases hk : k = n + 1
    · exact ⟨x, hx, by rw [hk, ← e, List.take_length]⟩
    · rcases hw.up x hx with e1 | ⟨y, hy, e1⟩
      · have := congrArg List.length e1
        simp at this
        omega
      · obtain ⟨z, hz, e2⟩ := Well.tops hw n y hy (by rw [e1]; simp; omega) k h1 (by omega)
        refine ⟨z, hz, ?_⟩
        rw [e2, e1, List.dropLast_eq_take, List.take_take, Nat.min_eq_left (by omega)]
theorem Well.deep {c : Ca} {L : List Nd} {N : Nat} (hw : Well c L N) {x : Nd} (hx : x ∈ L) : x.path.length ≤ L.length := by
  have h1 : ((List.range x.path.length).map (fun i => x.path.take (i + 1))).Nodup := map_nodup _ _ List.nodup_range (fun a ha b hb e => by
    have ha := List.mem_range.1 ha
    have hb := List.mem_range.1 hb
    have := congrArg List.length e
    rw [List.length_take, List.length_take] at this
    omega)
  have := nodup_len _ (L.map (·.path)) h1 (fun q hq => by
    obtain ⟨i, hi, rfl⟩ := List.mem_map.1 hq
    have hi := List.mem_range.1 hi
    obtain ⟨y, hy, e⟩ := hw.tops x.path.length x hx rfl (i + 1) (by omega) (by omega)
    exact List.mem_map.2 ⟨y, hy, e⟩)
  simpa using this
/-- which is the longest known one -/
structure Long (C : Nat) (L : List Nd) (P : List (List Int)) (k b o : Nat) : Prop where
  le : k ≤ P.length
  adr : AdrOf C L (P.take k) b o
  no : ∀ j, k < j → j ≤ P.length → ∀ x ∈ L, x.path ≠ P.take j
set_option maxHeartbeats 400000 in
theorem find_nil (ao : Option Addr) (n k : Nat) (w : World) : Calls Try.prog 11 #[.pointer none, .slice ao n k] w fun e w' => e = .returned (.slice none 0 0) ∧ w' = w := by
  go_enter Try.func11, Try.ntmps11
  go_wp2
  go_ret
  exact ⟨rfl, rfl⟩
set_option maxHeartbeats 400000 in
theorem keep_nil (ao bo : Option Addr) (n k m j : Nat) (w : World) : Calls Try.prog 12 #[.pointer none, .slice ao n k, .slice bo m j] w fun e w' => e = .returned (.int .i64 1) ∧ w' = w := by
  go_enter Try.func12, Try.ntmps12
  go_wp2
  go_ret
  exact ⟨rfl, rfl⟩
set_option maxHeartbeats 400000 in
theorem shrink_nil (n : Int) (w : World) : Calls Try.prog 13 #[.pointer none, .int .i64 n] w fun e w' => e = .returned (.int .i64 0) ∧ w' = w := by
  go_enter Try.func13, Try.ntmps13
  go_wp2
  go_ret
  exact ⟨rfl, rfl⟩
set_option maxHeartbeats 400000 in
theorem len_nil (w : World) : Calls Try.prog 14 #[.pointer none] w fun e w' => e = .returned (.int .i64 0) ∧ w' = w := by
  go_enter Try.func14, Try.ntmps14
  go_wp2
  go_ret
  exact ⟨rfl, rfl⟩
set_option maxRecDepth 20000 in
set_option maxHeartbeats 1600000 in
theorem find_any {w : World} {c : Ca} {A : Nat → Prop} {L : List Nd} {N : Nat} (h : CacheAt w c A L N) (hN : N ≤ 4611686018427387904) {to : Option Addr} {T cap : Nat} {t : Nat → Int} (ht : RdA w to 1 T cap (fun i => .int .i64 (t i))) (hfit : ∀ i, i < T → fits (t i)) :
    Calls Try.prog 11 #[.pointer (some ⟨c.C, 0, none⟩), .slice to T cap] w fun e w' => ∃ k b o g F, e = .returned (.slice (some ⟨g, 0, none⟩) k k) ∧ Long c.C L (pcL t c.S (T / c.S)) k b o ∧ w'.rowIs g 3 k F ∧ (∀ j, j < k → ∀ x ∈ L, x.path = (pcL t c.S (T / c.S)).take (j + 1) → F j = .int .i64 x.blk) ∧ w.heap.size ≤ g ∧ CacheAt w' c A (useL L ((pcL t c.S (T / c.S)).take k) (N + 1)) (N + 1) ∧ Chg w w' A := by
  obtain ⟨_, c1, _, _, _, _, _⟩ := h.cells
  obtain ⟨hS1, hS2⟩ := h.well.hS
  obtain ⟨hB1, hB2⟩ := h.well.hB
  have hlen := h.well.len
  have f0 : Below w.heap.size w w.drew := (Below.refl _ _).drew
  obtain ⟨m, HM⟩ : ∃ m, Hid (m = min (T / c.S) L.length) := ⟨_, rfl⟩
  have hm2 : m ≤ 256 := by rw [HM.out]; omega
  have hmS : m * c.S ≤ T := by
    have h1 : m ≤ T / c.S := by rw [HM.out]; omega
    have := Nat.mul_le_mul_right c.S h1
    have := Nat.div_mul_le_self T c.S
    omega
  have HLEN := hidd (len_any (h.fresh f0))
  have HCUT := hidd (cut_any (ht.fresh f0) h.well.hS (show L.length ≤ 256 by omega) HM.out)
  have HLG : Hid (∀ (Z : World) (g : Nat), Below w.heap.size w Z → Z.rowIs g 73 (m * 16) (cutF t c.S) → Calls Try.prog 35 #[.pointer (some ⟨c.C, 0, none⟩), .slice (some ⟨g, 0, none⟩) m m] Z fun e w' => (∃ k b o, e = .returned (.pointer (some ⟨b, o, none⟩)) ∧ Long c.C L (pcL t c.S (T / c.S)) k b o) ∧ Below w.heap.size w w' ∧ w'.cell? ⟨c.C, 1, none⟩ = some (.int .i64 c.S)) := fun Z g hz hr => by
    refine (longest_any (h.fresh hz) (pcL_len t c.S m).symm (pcL_text hfit hmS hr) (by omega) ⟨Nat.le_refl _, by unfold maxLen; omega⟩).mono ?_
    rintro e w' ⟨⟨k, b, o, rfl, hk, ha, hno⟩, hf⟩
    have hf' := hz.trans (hf.mono hz.size)
    have hmT : m ≤ T / c.S := by rw [HM.out]; omega
    refine ⟨⟨k, b, o, rfl, by rw [pcL_len]; omega, ?_, fun j h1 h2 x hx e => ?_⟩, hf', fresh_cell hf' c1⟩
    · rw [pcL_take _ _ (by omega)]
      rw [pcL_take _ _ hk] at ha
      exact ha
    · rw [pcL_len] at h2
      rw [pcL_take _ _ h2] at e
      have hd := h.well.deep hx
      rw [e, pcL_len] at hd
      refine hno j h1 (by rw [HM.out]; omega) x hx ?_
      rw [e, pcL_take _ _ (by rw [HM.out]; omega)]
  have H := hidd h
  clear h ht
  go_enter Try.func11, Try.ntmps11
  go_wp2
  go_region_held3 (fun w' => w'.cell? ⟨c.C, 1, none⟩ = some (.int .i64 c.S))
    (first | (with_reducible exact c1) | (with_reducible exact k5) | (with_reducible exact k6) | go_keep)
    (first
      | (go_at_call 14; with_reducible refine HLEN.out.mono ?_; rintro e w4 ⟨rfl, h4⟩; rw [h4]; clear h4)
      | (go_at_call 36; with_reducible refine HCUT.out.mono ?_; rintro e w5 ⟨g5, rfl, r5, hg5, f5⟩; have k5 := fresh_cell (fresh_trans f0 f5) c1)
      | (go_at_call 35; with_reducible refine (HLG.out w5 g5 (fresh_trans f0 f5) r5).mono ?_; rintro e w6 ⟨⟨k, b, o, rfl, LG⟩, f6, k6⟩))
  all_goals
    have hk := LG.le
    rw [pcL_len] at hk
    have hk2 : k ≤ 256 := by
      rcases LG.adr with ⟨e, _⟩ | ⟨x, hx, e, _⟩
      · have := congrArg List.length e
        rw [List.length_take, pcL_len, Nat.min_eq_left hk] at this
        simp at this
        omega
      · have := H.out.well.plen x hx
        rw [e, List.length_take, pcL_len] at this
        omega
    have hlk : k = ((pcL t c.S (T / c.S)).take k).length := by rw [List.length_take, pcL_len, Nat.min_eq_left hk]
    have HUSE := hidd (use_any (H.out.fresh f6) hN LG.adr)
    have HBL : Hid (∀ Z, CacheAt Z c A (useL L ((pcL t c.S (T / c.S)).take k) (N + 1)) (N + 1) → Calls Try.prog 38 #[.pointer (some ⟨b, o, none⟩)] Z fun e w' => ∃ F : Nat → Value, e = .returned (.slice (some ⟨Z.heap.size, 0, none⟩) k k) ∧ w'.rowIs Z.heap.size 3 k F ∧ (∀ j, j < k → ∀ x ∈ L, x.path = (pcL t c.S (T / c.S)).take (j + 1) → F j = .int .i64 x.blk) ∧ Below Z.heap.size Z w') := fun Z hZ => by
      refine (blocks_any hZ ((mkF_same _ _ _).adr LG.adr) hlk (by rw [← hlk]; exact hk2)).mono ?_
      rintro e w' ⟨F, rfl, hr, hF, hf⟩
      refine ⟨F, rfl, hr, fun j hj x hx ex => ?_, hf⟩
      have := hF j hj (mkF ((pcL t c.S (T / c.S)).take k) 0 (N + 1) x) (List.mem_map.2 ⟨x, hx, rfl⟩) (by rw [(mkF_same _ _ _).path, ex, List.take_take, Nat.min_eq_left (by omega)])
      rw [this, (mkF_same _ _ _).blk]
    have HLGk := hidd LG
    clear HLEN HCUT HLG k5 k6 LG hlk c1
    go_wp2_with (first
      | (go_at_call 37; refine HUSE.out.mono ?_; rintro e w7 ⟨rfl, C7, G7⟩)
      | (go_at_call 38; refine (HBL.out w7 C7).mono ?_; rintro e w8 ⟨F, rfl, r8, hF8, f8⟩))
    go_ret
    refine ⟨k, b, o, w7.heap.size, F, rfl, HLGk.out, r8, hF8, ?_, C7.fresh f8, ?_⟩
    · have := f6.size; have := G7.size; omega
    · exact ((Chg.of_below A f6).trans G7 (fun _ _ t => t)).post f8
end Go.Proofs.Ytaalinlggjimcaa
