import Derived.Test.YtlbmgknlbhakoabTxY
import Derived.Test.YtlbmgknlbhakoabTxL
namespace Go.Proofs.Ytlbmgknlbhakoab
open Go.RowKit
/-! TextStops. -/
set_option maxHeartbeats 1000000 in
theorem copyB_any {w : World} {ao : Option Addr} {n ca : Nat} {f : Nat → Int} (ha : RdA w ao 1 n ca (fun i => .int .u8 (f i))) (hn : n ≤ 140737488351232) :
    Calls Try.prog 13 #[.slice ao n ca] w fun e w' => ∃ v, e = .returned v ∧ Own w' w.heap.size 5 1 v n (fun j => .int .u8 (f j)) ∧ Below w.heap.size w w' := by
  go_enter Try.func13, Try.ntmps13
  go_wp2
  go_loopw [3, 4] (fun v i wr => ∃ k : Nat, k ≤ n ∧ i = .int .i64 k ∧ Own wr w.heap.size 5 1 v k (fun j => .int .u8 (f j)) ∧ Below w.heap.size w wr) (fun _ i _ => n - (intOf i).toNat)
  case atStart => exact ⟨0, by omega, rfl, own_nil _ _ _ _ _, Below.refl _ _⟩
  case round =>
    obtain ⟨k, hk, rfl, hown, hf1⟩ := hrel
    have hsz := hf1.size
    by_cases hlt : k < n
    · obtain ⟨b1, o1, rfl, h1⟩ := (ha.fresh hf1).one (by omega)
      have c1 := h1 k hlt
      clear h1
      go_wp2_with (at_builtin; refine wpList_app1 _ rfl _ _ 22 rfl _ 5 (.int .u8 0) 1 Try.underlying22 infoB rfl _ k _ rfl (hown.kept (fresh_alloc _ _)) _ 1 rfl (new_cell _ _ _) rfl (by omega) (by omega) (by simp; omega) ?_)
      intro v' w6 hown' happ
      have hf6 := happ.below (hf1.alloc hsz _) (hown.kept (fresh_alloc _ _)) (Nat.le_refl _) (by simp; omega)
      clear happ hown hf1 c1
      go_wp2
      go_roundw
      case rel => exact ⟨k + 1, by omega, by go_num, hown', hf6⟩
      case measure => simp [intOf]; omega
    · obtain rfl : k = n := by omega
      go_wp2
      go_ret
      exact ⟨_, rfl, hown, hf1⟩
/-- what Decode gives -/
theorem dec_spl {d : VD} {ts : List Nat} : ∀ p, p ≤ ts.length → d.dec (fun i => ((ts.getD i 0 : Nat) : Int)) p = spl d (ts.take p)
  | 0, _ => by simp [VD.dec, spl]
  | p + 1, h => by
    rw [spl_succ (by omega), ← dec_spl p (by omega)]
    simp [VD.dec]
theorem fd_cat (d : VD) (sts : List (List Int)) (ts : List Nat) : fdO d sts [] false ts ++ fdX d sts [] false ts = (comT d sts [] ts).1 := by
  simp [fdO, fdX, List.take_append_drop]
theorem stops_math {d : VD} {sts : List (List Int)} {ts : List Nat} (hz : ∀ k ∈ ts, k ≠ 0) : (comT d sts [] ts).1 <+: spl d ts ∧ Clr sts (comT d sts [] ts).1 ∧ (fdE d sts [] false ts = false → (comT d sts [] ts).1 = spl d ts) ∧ (fdE d sts [] false ts = true → ∃ s ∈ sts, (comT d sts [] ts).1 ++ s <+: spl d ts) := by
  have e : fdE d sts [] false ts = (comT d sts [] ts).2 := by simp [fdE]
  obtain ⟨h1, h2⟩ := comT_fin (d := d) ts [] hz (clr_nil sts)
  have h3 := comT_pre (d := d) (sts := sts) ts []
  rw [List.nil_append] at h1 h2 h3
  rw [e]
  cases ho : (comT d sts [] ts).2 with
  | false =>
    have h4 := comT_no ho
    rw [List.nil_append] at h4
    exact ⟨h3, by rw [h4]; exact h1 ho, fun _ => h4, fun h => nomatch h⟩
  | true => exact ⟨h3, (h2 ho).text.1, (fun h => nomatch h), fun _ => (h2 ho).text.2⟩
theorem mid_pre {u s a : List Int} (h : u ++ s <+: a) : (a.drop u.length).take s.length = s ∧ u.length + s.length ≤ a.length := by
  obtain ⟨r, rfl⟩ := h
  simp
theorem pre_get {u a : List Int} (h : u <+: a) {j : Nat} (hj : j < u.length) : u.getD j 0 = a.getD j 0 := by
  obtain ⟨r, rfl⟩ := h
  simp [List.getD_eq_getElem?_getD, hj, List.getElem?_append_left hj]
end Go.Proofs.Ytlbmgknlbhakoab
