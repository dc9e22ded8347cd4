import Derived.Test.YtaalinlggjimcaaXL
import Derived.LaidEql
namespace Go.Proofs.Ytaalinlggjimcaa
open Go.RowKit
/-! One of a list of pointers is struck. -/
theorem own_of_row {w : World} {base gb cap n : Nat} {e : TypeId} {F cs : Nat → Value} (hr : w.rowIs gb e cap F) (hb : base ≤ gb) (hn : n ≤ cap) (hc : cap ≤ maxLen) (hF : ∀ j, j < n → F j = cs j) : Own w base e 1 (.slice (some ⟨gb, 0, none⟩) n cap) n cs := by
  obtain ⟨c, h1, h2, h3⟩ := hr
  refine ⟨by simp, .inr ⟨gb, cap, c, rfl, hb, h1, hn, hc, by omega, ?_⟩⟩
  refine List.ext_getElem? (fun j => ?_)
  by_cases hj : j < n
  · rw [List.getElem?_take, if_pos (by omega), List.getElem?_map, List.getElem?_range (by omega), Option.map_some, Array.getElem?_toList, h3 j (by omega), hF j hj]
  · rw [List.getElem?_eq_none (by simp; omega), List.getElem?_eq_none (by simp; omega)]
def NodesAt (w : World) (ys : List Nd) : Prop := ∀ y ∈ ys, ∃ F, w.rowIs y.at_ 78 21 F
theorem NodesAt.set {w : World} {ys : List Nd} (h : NodesAt w ys) {g n j : Nat} {F : Nat → Value} (hr : w.rowIs g 76 n F) (v : Value) : NodesAt (w.setCell ⟨g, j, none⟩ v) ys := fun y hy => by
  obtain ⟨f, hf⟩ := h y hy
  exact ⟨f, hf.setOther (a := ⟨g, j, none⟩) (type_apart hf hr (by decide)) v⟩
theorem ptr_eql {w : World} {ys : List Nd} (h : NodesAt w ys) {x y : Nd} (hx : x ∈ ys) (hy : y ∈ ys) : (binOp .eql 76 (.pointer (some ⟨y.at_, 0, none⟩)) (.pointer (some ⟨x.at_, 0, none⟩))).run Try.prog w = .ok (.bool (decide (y.at_ = x.at_))) w := by
  have e : binOp .eql 76 (.pointer (some ⟨y.at_, 0, none⟩)) (.pointer (some ⟨x.at_, 0, none⟩)) = Value.bool <$> Op.equal 76 (.pointer (some ⟨y.at_, 0, none⟩)) (.pointer (some ⟨x.at_, 0, none⟩)) := rfl
  have hs : ∀ w, (sizeOf 78).run Try.prog w = .ok 21 w := fun w => by
    have h : (Try.prog.info? 78).map (·.size) = some 21 := by kernel_rfl
    cases hq : Try.prog.info? 78 with
    | none => rw [hq] at h; cases h
    | some i =>
      rw [hq] at h
      simp at h
      simp [sizeOf, typeInfo, hq, h]
  have key : (sameAddr ⟨y.at_, 0, none⟩ ⟨x.at_, 0, none⟩).run Try.prog w = .ok (decide (y.at_ = x.at_)) w := by
    by_cases e : y.at_ = x.at_
    · rw [e, run_sameAddr_same]; simp
    · obtain ⟨F, c1, h1, _⟩ := h x hx
      obtain ⟨G, c2, h2, _⟩ := h y hy
      rw [run_sameAddr_other w (a := ⟨y.at_, 0, none⟩) (b := ⟨x.at_, 0, none⟩) (fun e2 => e (by injection e2)) h2 h1]
      simp [e]
  rw [e]
  have : (Op.equal 76 (.pointer (some ⟨y.at_, 0, none⟩)) (.pointer (some ⟨x.at_, 0, none⟩))).run Try.prog w = .ok (decide (y.at_ = x.at_)) w := by
    show (Op.equalIn (9999 + 1) 76 _ _).run Try.prog w = _
    unfold Op.equalIn
    simp [run_underlying Try.underlying76, hs, key]
  simp [this]
set_option maxHeartbeats 800000 in
theorem forcl_any {w : World} {ys : List Nd} (h : NodesAt w ys) {x y : Nd} (hx : x ∈ ys) (hy : y ∈ ys) {B : Nat} (hB : w.cell? ⟨B, 0, none⟩ = some (.pointer (some ⟨x.at_, 0, none⟩))) :
    Calls Try.prog 67 #[.pointer (some ⟨y.at_, 0, none⟩), .pointer (some ⟨B, 0, none⟩)] w fun e w' => e = .returned (.bool (decide (y.at_ = x.at_))) ∧ w' = w := by
  have he := ptr_eql h hx hy
  generalize decide (y.at_ = x.at_) = r at *
  clear h hx hy
  go_enter Try.func67, Try.ntmps67
  go_wp2
  go_ret
  exact ⟨rfl, rfl⟩
/-- the list's pointers lie in a row -/
def ndF (ys : List Nd) : Nat → Value := fun j => (ys.map Nd.ptr).getD j nilP
theorem ndF_get {ys : List Nd} {j : Nat} {y : Nd} (h : ys[j]? = some y) : ndF ys j = .pointer (some ⟨y.at_, 0, none⟩) := by
  unfold ndF
  rw [List.getD_eq_getElem?_getD, List.getElem?_map, h]; rfl
set_option maxRecDepth 20000 in
set_option maxHeartbeats 1600000 in
theorem indexFunc_any {w : World} {ys : List Nd} (h : NodesAt w ys) (hd : ∀ a ∈ ys, ∀ b ∈ ys, a.at_ = b.at_ → a = b) (hnd : ys.Nodup) {x : Nd} {k m g cap : Nat} (hk : ys[k]? = some x) (hm : m = ys.length) (hm2 : m ≤ 1000) {B : Nat} (hB : w.cell? ⟨B, 0, none⟩ = some (.pointer (some ⟨x.at_, 0, none⟩))) (hr : ∀ j, j < m → w.cell? ⟨g, j, none⟩ = some (ndF ys j)) :
    Calls Try.prog 76 #[.slice (some ⟨g, 0, none⟩) m cap, .func (.func 67) #[] #[.pointer (some ⟨B, 0, none⟩)]] w fun e w' => e = .returned (.int .i64 k) ∧ w' = w := by
  have hkm : k < m := by rw [hm]; exact (List.getElem?_eq_some_iff.1 hk).1
  have HCL : Hid (∀ j y, ys[j]? = some y → Calls Try.prog 67 #[.pointer (some ⟨y.at_, 0, none⟩), .pointer (some ⟨B, 0, none⟩)] w fun e w' => e = .returned (.bool (decide (j = k))) ∧ w' = w) := fun j y hj => by
    have := forcl_any h (List.mem_of_getElem? hk) (List.mem_of_getElem? hj) hB
    have e : decide (y.at_ = x.at_) = decide (j = k) := by
      by_cases e1 : j = k
      · subst e1
        rw [hj] at hk
        cases hk
        simp
      · have : y.at_ ≠ x.at_ := fun e2 => e1 ((List.getElem?_inj (List.getElem?_eq_some_iff.1 hj).1 hnd).1 (hj.trans (by rw [hd y (List.mem_of_getElem? hj) x (List.mem_of_getElem? hk) e2, hk])))
        simp [this, e1]
    rw [e] at this
    exact this
  have HR := hidd hr
  have HM := hidd hm
  clear h hd hnd hk hB hr hm
  go_enter Try.func76, Try.ntmps76
  go_wp2
  go_loopw [5, 8] (fun _ i wr => ∃ j : Nat, j ≤ k ∧ i = .int .i64 j ∧ wr = w) (fun _ i _ => m - (intOf i).toNat)
  case atStart => exact ⟨0, Nat.zero_le _, rfl, rfl⟩
  case round =>
    obtain ⟨j, hj, rfl, rfl⟩ := hrel
    obtain ⟨y, hy⟩ : ∃ y, ys[j]? = some y := ⟨_, List.getElem?_eq_getElem (show j < ys.length by rw [← HM.out]; omega)⟩
    have d := HR.out j (by omega)
    rw [ndF_get hy] at d
    have hc := HCL.out j y hy
    clear hy
    by_cases e : j = k
    · rw [decide_eq_true e] at hc
      have E := hidd e
      clear e
      have hjm : j < m := by omega
      go_wp2_with (go_at_call 67; refine hc.mono ?_; rintro e w9 ⟨rfl, h9⟩; rw [h9]; clear h9)
      go_ret
      exact ⟨ret_int (by rw [E.out]), rfl⟩
    · rw [decide_eq_false e] at hc
      have hjk : j < k := by omega
      clear e
      go_wp2_with (go_at_call 67; refine hc.mono ?_; rintro e w9 ⟨rfl, h9⟩; rw [h9]; clear h9)
      go_roundw
      case rel => exact ⟨j + 1, by omega, by go_num, trivial⟩
      case measure => simp [intOf]; omega
end Go.Proofs.Ytaalinlggjimcaa
