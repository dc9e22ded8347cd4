import Derived.Test.YtlbmgknlbhakoaaTxD
namespace Go.Proofs.Ytlbmgknlbhakoaa
open Go.RowKit
/-! Close, Over, mayStop. -/
set_option maxRecDepth 100000 in
theorem over_any {w : World} {S : Nat} {K : Nat → Prop} {d : VD} {sts : List (List Int)} {wv : Value} {o : Bool} (hS : StP w S K d sts wv o) :
    Calls Try.prog 16 #[.pointer (some ⟨S, 0, none⟩)] w fun e w' => e = .returned (.bool o) ∧ w' = w := by
  obtain ⟨_, c3, _⟩ := hS.cells
  go_enter Try.func16, Try.ntmps16
  go_wp2
  go_ret
  simp
set_option maxRecDepth 100000 in
theorem close_any {w : World} {S : Nat} {K : Nat → Prop} {d : VD} {sts : List (List Int)} {wv : Value} {x : List Int} {o : Bool} (hS : StA w S K d sts wv x o) :
    Calls Try.prog 14 #[.pointer (some ⟨S, 0, none⟩)] w fun e w' => e = .returned wv ∧ StA w' S K d sts (.slice none 0 0) [] true ∧ OwnB w' 0 wv x ∧ Chg w w' (fun b => b = S) := by
  obtain ⟨c2, c3, ff⟩ := hS.p.cells
  obtain ⟨aw, kw, ew, _⟩ := hS.wt.rda
  have f2 := ff 2
  have f3 := ff 3
  have H1 := hidd ((hS.p.wait (.slice none 0 0)).over true)
  have H2 := hidd ((hS.wt.set S 2 (.slice none 0 0) hS.wS).set S 3 (.bool true) hS.wS)
  have H3 : Hid (Chg w ((w.setCell ⟨S, 2, none⟩ (.slice none 0 0)).setCell ⟨S, 3, none⟩ (.bool true)) (fun b => b = S)) := (Chg.of_set w S 2 _).trans (Chg.of_set _ S 3 _) (fun _ _ h => h)
  have HP := hidd hS.p
  rw [ew] at c2 H2 ⊢
  clear hS ff ew
  go_enter Try.func14, Try.ntmps14
  go_wp2
  go_ret
  exact ⟨rfl, ⟨H1.out, own_nil _ _ _ _ _, fun b hb => by simp [Value.ownBlock] at hb, by simp [Value.ownBlock]⟩, H2.out, H3.out⟩
/-- a string's bytes as numbers -/
def bys (s : ByteArray) : List Int := s.data.toList.map (fun b => (b.toNat : Int))
theorem bys_len (s : ByteArray) : (bys s).length = s.size := by unfold bys; rw [List.length_map, Array.length_toList]; rfl
theorem bys_byt (s : ByteArray) : Byt (bys s) := fun x hx => by
  obtain ⟨b, _, rfl⟩ := List.mem_map.1 hx
  have := b.toNat_lt
  exact ⟨Int.natCast_nonneg _, by omega⟩
/-- stop strings as they may be -/
def MaySt (sb : List ByteArray) : Prop := sb.length ≤ 4 ∧ ∀ i, i < sb.length → 1 ≤ (sb.getD i ByteArray.empty).size ∧ (sb.getD i ByteArray.empty).size ≤ 16
theorem maySt_ok {sb : List ByteArray} (h : MaySt sb) : SOk (sb.map bys) := by
  have hg : ∀ i, i < sb.length → (sb.map bys).getD i [] = bys (sb.getD i ByteArray.empty) := fun i hi => by simp [List.getD_eq_getElem?_getD, hi]
  refine ⟨by simpa using h.1, fun i hi => ?_, fun i hi => ?_⟩
  · have hi' : i < sb.length := by simpa using hi
    rw [hg i hi', bys_len]; exact h.2 i hi'
  · have hi' : i < sb.length := by simpa using hi
    rw [hg i hi']; exact bys_byt _
set_option maxRecDepth 100000 in
theorem mayst_any {w : World} {so : Option Addr} {cs : Nat} {sb : List ByteArray} (hs : RdA w so 1 sb.length cs (fun i => .string (sb.getD i ByteArray.empty))) (hlen : ∀ i, i < sb.length → (sb.getD i ByteArray.empty).size ≤ 9223372036854775807) (r : Bool) (hr : r = true ↔ MaySt sb) :
    Calls Try.prog 24 #[.slice so sb.length cs] w fun e w' => e = .returned (.bool r) ∧ w' = w := by
  have HS := hidd hs
  have HL := hidd hlen
  have HR := hidd hr
  have hle := Nat.le_trans hs.le hs.top
  unfold maxLen at hle
  obtain ⟨n, en⟩ : ∃ n, n = sb.length := ⟨_, rfl⟩
  have EN := hidd en
  rw [← en] at hle HS HL ⊢
  clear hs hlen hr en
  by_cases h4 : n ≤ 4
  · go_enter Try.func24, Try.ntmps24
    go_wp2
    go_loopw [10] (fun i wr => ∃ k : Nat, k ≤ n ∧ i = .int .i64 k ∧ Hid (∀ j, j < k → 1 ≤ (sb.getD j ByteArray.empty).size ∧ (sb.getD j ByteArray.empty).size ≤ 16) ∧ wr = w) (fun i _ => n - (intOf i).toNat)
    case atStart => exact ⟨0, Nat.zero_le _, rfl, (fun j hj => absurd hj (by omega)), rfl⟩
    case round =>
      obtain ⟨k, hk, rfl, HG, hw⟩ := hrel
      rw [hw]
      clear hw
      by_cases hlt : k < n
      · obtain ⟨b, off, rfl, hc⟩ := HS.out.one (by omega)
        have c1 := hc k hlt
        have hl := HL.out k hlt
        obtain ⟨s, es⟩ : ∃ s, s = sb.getD k ByteArray.empty := ⟨_, rfl⟩
        have ES := hidd es
        rw [← es] at c1 hl
        clear hc es
        obtain ⟨z, ez⟩ : ∃ z, z = s.size := ⟨_, rfl⟩
        have EZ := hidd ez
        rw [← ez] at hl
        have hsz : s.size = z := ez.symm
        clear ez
        by_cases h0 : z = 0
        · have E : Hid (false = r) := by
            show _ = _
            cases r with
            | false => rfl
            | true =>
              have := ((HR.out.1 rfl).2 k (by have := EN.out; omega)).1
              rw [← ES.out, ← EZ.out] at this
              omega
          have z1 : ((z : Int) == 0) = true := by simp; omega
          go_wp2
          go_ret
          exact ⟨ret_bool E.out, rfl⟩
        · have z1 : ((z : Int) == 0) = false := by simp; omega
          by_cases h16 : z ≤ 16
          · have HG2 : Hid (∀ j, j < k + 1 → 1 ≤ (sb.getD j ByteArray.empty).size ∧ (sb.getD j ByteArray.empty).size ≤ 16) := fun j hj => by
              by_cases e : j = k
              · subst e; rw [← ES.out, ← EZ.out]; omega
              · exact HG.out j (by omega)
            have z2 : decide ((z : Int) > 16) = false := by simp; omega
            go_wp2
            go_roundw
            case rel => exact ⟨k + 1, by omega, by go_num, HG2, trivial⟩
            case measure => simp [intOf]; omega
          · have E : Hid (false = r) := by
              show _ = _
              cases r with
              | false => rfl
              | true =>
                have := ((HR.out.1 rfl).2 k (by have := EN.out; omega)).2
                rw [← ES.out, ← EZ.out] at this
                omega
            have z2 : decide ((z : Int) > 16) = true := by simp; omega
            go_wp2
            go_ret
            exact ⟨ret_bool E.out, rfl⟩
      · obtain rfl : k = n := by omega
        have E : Hid (true = r) := by
          show _ = _
          cases r with
          | true => rfl
          | false => exact absurd (HR.out.2 ⟨by have := EN.out; omega, by rw [← EN.out]; exact HG.out⟩) (by simp)
        go_wp2
        go_ret
        exact ⟨ret_bool E.out, rfl⟩
  · have E : Hid (false = r) := by
      show _ = _
      cases r with
      | false => rfl
      | true =>
        have := (HR.out.1 rfl).1
        have := EN.out
        omega
    go_enter Try.func24, Try.ntmps24
    go_wp2
    go_ret
    exact ⟨ret_bool E.out, rfl⟩
end Go.Proofs.Ytlbmgknlbhakoaa
