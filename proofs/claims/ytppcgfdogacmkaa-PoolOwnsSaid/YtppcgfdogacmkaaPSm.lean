import Derived.Test.YtppcgfdogacmkaaRows
import Derived.Test.YtppcgfdogacmkaaOwn
import Derived.Test.YtppcgfdogacmkaaTens
namespace Go.Proofs.Ytppcgfdogacmkaa
open Go.RowKit
/-! mod, at, order. -/
theorem infoI : (Try.prog.info? 3).map (fun i => (i.zero, i.size, i.bytes)) = some (some (.int .i64 0), 1, 8) := by kernel_rfl
theorem infoI8 : (Try.prog.info? 116).map (fun i => (i.zero, i.size, i.bytes)) = some (some (.int .i8 0), 1, 1) := by kernel_rfl
def md (k : Int) (n : Nat) : Nat := (k % (n : Int)).toNat
theorem md_lt (k : Int) {n : Nat} (h : 0 < n) : md k n < n := by
  unfold md
  have := Int.emod_nonneg k (show (n : Int) ≠ 0 by omega)
  have := Int.emod_lt_of_pos k (show (0 : Int) < n by omega)
  omega
theorem md_pos {k : Int} {n : Nat} (hn : 0 < n) (h : ¬ k.tmod n < 0) : k.tmod n = (md k n : Int) := by
  have h1 := Int.emod_nonneg k (show (n : Int) ≠ 0 by omega)
  by_cases hk : 0 ≤ k
  · rw [Int.tmod_eq_emod_of_nonneg hk]; unfold md; omega
  · have e := Fix.tmod_low k n (by omega)
    have h3 := Int.emod_nonneg (-k) (show (n : Int) ≠ 0 by omega)
    have h4 := Int.mul_ediv_add_emod (-k) n
    have h5 := Int.mul_ediv_add_emod k n
    have h6 := Int.emod_lt_of_pos k (show (0 : Int) < n by omega)
    have h7 : (-k) % n = 0 := by omega
    have h8 : (n : Int) ∣ -k := Int.dvd_of_emod_eq_zero h7
    have h9 : k % n = 0 := Int.emod_eq_zero_of_dvd ((Int.dvd_neg).1 h8)
    unfold md; rw [e, h7, h9]; rfl
theorem md_neg {k : Int} {n : Nat} (hn : 0 < n) (h : k.tmod n < 0) : k.tmod n + n = (md k n : Int) := by
  have h1 := Int.emod_nonneg k (show (n : Int) ≠ 0 by omega)
  have e := Int.tmod_eq_emod (a := k) (b := (n : Int))
  split at e
  · omega
  · unfold md; omega
theorem tmod_bd (k : Int) {n : Nat} (hn : 0 < n) : -(n : Int) < k.tmod n ∧ k.tmod n < n := by
  constructor
  · have := Int.lt_tmod_of_pos k (show (0 : Int) < n by omega); omega
  · exact Int.tmod_lt_of_pos k (show (0 : Int) < n by omega)
set_option maxHeartbeats 400000 in
theorem mod_any (k : Int) (n : Nat) (w : World) (h0 : 0 < n) (h1 : n ≤ 4611686018427387904) :
    Calls Try.prog 13 #[.int .i64 k, .int .i64 (n : Int)] w fun e w' => e = .returned (.int .i64 (md k n : Int)) ∧ w' = w := by
  have hb := tmod_bd k h0
  have hz : ¬ (n : Int) = 0 := by omega
  by_cases c : k.tmod n < 0
  · have e := hidd (md_neg h0 c)
    go_enter Try.func13, Try.ntmps13
    go_wp2
    go_ret
    exact ⟨ret_int e.out, rfl⟩
  · have e := hidd (md_pos h0 c)
    go_enter Try.func13, Try.ntmps13
    go_wp2
    go_ret
    exact ⟨ret_int e.out, rfl⟩
/-- What a list of the call's own is, once it is not grown any more: a row. -/
theorem Own.row {w : World} {base : Nat} {e : TypeId} {sz : Nat} {v : Value} {n : Nat} {cs : Nat → Value} (h : Own w base e sz v n cs) (hn : 0 < n) :
    ∃ g cap F, v = .slice (some ⟨g, 0, none⟩) n cap ∧ n ≤ cap ∧ cap ≤ maxLen ∧ base ≤ g ∧ w.rowIs g e (cap * sz) F ∧ ∀ j, j < n * sz → F j = cs j := by
  rcases h.2 with ⟨rfl, rfl⟩ | ⟨g, cap, cur, rfl, hb, hg, hnc, hcm, hcs, htake⟩
  · omega
  · refine ⟨g, cap, fun j => cur[j]?.getD (.bool false), rfl, hnc, hcm, hb, ⟨cur, hg, hcs, fun i hi => ?_⟩, fun j hj => ?_⟩
    · show cur[i]? = some (cur[i]?.getD _)
      rw [Array.getElem?_eq_getElem (by omega)]; rfl
    · have h1 := congrArg (fun l => l[j]?) htake
      simp only [List.getElem?_take, hj, if_true, List.getElem?_map, List.getElem?_range hj, Option.map_some, Array.getElem?_toList] at h1
      show cur[j]?.getD _ = cs j
      rw [h1]; rfl
theorem Own.row1 {w : World} {base : Nat} {e : TypeId} {v : Value} {n : Nat} {cs : Nat → Value} (h : Own w base e 1 v n cs) (hn : 0 < n) :
    ∃ g cap F, v = .slice (some ⟨g, 0, none⟩) n cap ∧ n ≤ cap ∧ cap ≤ maxLen ∧ base ≤ g ∧ w.rowIs g e cap F ∧ ∀ j, j < n → F j = cs j := by
  obtain ⟨g, cap, F, h1, h2, h3, h4, h5, h6⟩ := h.row hn
  exact ⟨g, cap, F, h1, h2, h3, h4, by simpa using h5, fun j hj => h6 j (by omega)⟩
theorem rowIs_rd' {w : World} {b n cap : Nat} {t : TypeId} {f : Nat → Value} (h : w.rowIs b t cap f) (hn : n ≤ cap) (hc : cap ≤ maxLen) : RdA w (some ⟨b, 0, none⟩) 1 n cap f :=
  ⟨hn, hc, fun _ => ⟨b, 0, rfl, fun j hj => by simpa using h.cell (i := j) (by omega)⟩⟩
theorem swp_cells {k q m : Nat} {p : Nat → Nat} {F : Nat → Value} (h : ∀ j, j < k → F j = .int .i64 (p j : Int)) :
    Hid (∀ j, j < k → (if j = m then .int .i64 (p q : Int) else if j = q then .int .i64 (p m : Int) else F j) = Value.int .i64 (swp p q m j : Int)) := by
  intro j hj
  unfold swp
  by_cases h1 : j = m
  · simp [h1]
  · by_cases h2 : j = q
    · rw [if_neg h1, if_pos h2, if_neg h1, if_pos h2]
    · rw [if_neg h1, if_neg h2, if_neg h1, if_neg h2, h j hj]
set_option maxHeartbeats 2000000 in
theorem order_any {w : World} {bo : Option Addr} {n m cap : Nat} {g : Nat → Int} (hb : RdA w bo 1 m cap (fun i => .int .i64 (g i))) (hn : n * 8 ≤ 140737488351232) :
    Calls Try.prog 16 #[.int .i64 (n : Int), .slice bo m cap] w fun e w' => ∃ v p, e = .returned v ∧ Perm n p ∧ Rd w' v 1 n (fun i => .int .i64 (p i : Int)) ∧ Below w.heap.size w w' := by
  have hm : m ≤ 9223372036854775807 := by have := hb.le; have := hb.top; unfold maxLen at this; omega
  go_enter Try.func16, Try.ntmps16
  go_wp2
  go_loopw [5, 6] (fun v i wr => ∃ k : Nat, k ≤ n ∧ i = .int .i64 k ∧ Own wr w.heap.size 3 1 v k (fun j => .int .i64 (j : Int)) ∧ Below w.heap.size w wr) (fun _ i _ => n - (intOf i).toNat)
  case atStart => exact ⟨0, by omega, rfl, own_nil _ _ _ _ _, Below.refl _ _⟩
  case round =>
    obtain ⟨k, hk, rfl, hown, hf⟩ := hrel
    have hsz := hf.size
    by_cases hlt : k < n
    · go_wp2_with (at_builtin; refine wpList_app1 _ rfl _ _ 45 rfl w.heap.size 3 (.int .i64 0) 8 Try.underlying45 infoI rfl _ k _ rfl (hown.kept (fresh_alloc _ _)) _ 1 rfl (new_cell _ _ _) rfl (by omega) (by omega) (by simp; omega) ?_)
      intro v' w1 hown' happ
      have hf1 := happ.below (hf.alloc hsz _) (hown.kept (fresh_alloc _ _)) (Nat.le_refl _) (by simp; omega)
      clear happ hown
      go_wp2
      go_roundw
      case rel => exact ⟨k + 1, by omega, by go_num, hown', hf1⟩
      case measure => simp [intOf]; omega
    · obtain rfl : k = n := by omega
      by_cases h0 : k = 0
      · subst h0
        obtain ⟨ao, c, rfl, hr⟩ := hown.rd
        go_wp2
        refine wp_loop_rounds 1 ?_
        rw [rounds_succ]
        go_wp2
        go_ret
        exact ⟨_, _, rfl, perm_id 0, ⟨ao, c, rfl, hr.congr (fun j hj => by omega)⟩, hf⟩
      · obtain ⟨b, c, F, rfl, hc1, hc2, hbb, hrow, hF⟩ := hown.row (by omega)
        have HF := hidd hF
        clear hF hown
        go_wp2
        go_loopw [7] (fun i wr => ∃ (q : Nat) (p : Nat → Nat) (F : Nat → Value), q ≤ k ∧ i = .int .i64 q ∧ Perm k p ∧ wr.rowIs b 3 c F ∧ Hid (∀ j, j < k → F j = .int .i64 (p j : Int)) ∧ Below w.heap.size w wr) (fun i _ => k - (intOf i).toNat)
        case atStart => exact ⟨0, fun i => i, F, by omega, rfl, perm_id k, by simpa using hrow, fun j hj => HF.out j (by omega), hf⟩
        case round =>
          clear HF hrow hf hsz
          obtain ⟨q, p, F, hq, rfl, hp, hrow, HF, hf⟩ := hrel
          have hsz := hf.size
          by_cases hlt : q < k
          · by_cases hlm : q < m
            · obtain ⟨b2, o2, rfl, h2⟩ := (hb.fresh hf).one (by omega)
              have c2 := h2 q hlm
              have hmd := md_lt (g q) (show 0 < k by omega)
              have ca := hrow.cell (i := q) (by omega)
              rw [HF.out q hlt] at ca
              have cb := hrow.cell (i := md (g q) k) (by omega)
              rw [HF.out _ hmd] at cb
              have fa := hrow.frozen
              have cb2 := (hrow.set q (.int .i64 (p (md (g q) k) : Int))).cell (i := md (g q) k) (by omega)
              clear h2
              go_wp2_with (go_at_call 13; refine (mod_any _ _ _ (by omega) (by omega)).mono ?_; rintro e w' ⟨rfl, rfl⟩)
              go_roundw
              case rel => exact ⟨q + 1, swp p q (md (g q) k), _, by omega, by go_num, hp.swp hlt hmd, (hrow.set q _).set (md (g q) k) _, swp_cells HF.out, (hf.setCell (by simpa using hbb) _).setCell (by simpa using hbb) _⟩
              case measure => simp [intOf]; omega
            · go_wp2
              go_ret
              exact ⟨_, p, rfl, hp, ⟨_, c, rfl, (rowIs_rd' (n := k) hrow hc1 hc2).congr (fun j hj => HF.out j (by omega))⟩, hf⟩
          · go_wp2
            go_ret
            exact ⟨_, p, rfl, hp, ⟨_, c, rfl, (rowIs_rd' (n := k) hrow hc1 hc2).congr (fun j hj => HF.out j (by omega))⟩, hf⟩
end Go.Proofs.Ytppcgfdogacmkaa
