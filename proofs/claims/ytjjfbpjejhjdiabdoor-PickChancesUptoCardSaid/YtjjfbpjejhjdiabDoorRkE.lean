import Derived.Test.YtjjfbpjejhjdiabDoorRkD
import Derived.Test.YtjjfbpjejhjdiabDoorRfU
namespace Go.Proofs.YtjjfbpjejhjdiabDoor
open Go.RowKit
/-! The reference's Check; what its Chances has gathered so far. -/
set_option maxRecDepth 20000 in
set_option maxHeartbeats 1600000 in
theorem check_ref (p : Prm) (w : World) : Calls Tryd.prog 31 #[.agg #[.int .i64 p.temp, .int .i64 p.topk, .int .i64 p.topp, .int .i64 p.pen, .int .u64 (p.seed : Int)]] w fun e w' => (∃ er, e = .returned (.int .i64 er) ∧ IsChk p er) ∧ Below w.heap.size w w' := by
  have f1 := fresh_alloc w (.cells #[.int .i64 p.temp, .int .i64 p.topk, .int .i64 p.topp, .int .i64 p.pen, .int .u64 (p.seed : Int)] 24)
  by_cases c0 : p.temp < 0
  · have HB : Hid (¬ p.Ok) := fun o => by have := o.t0; omega
    go_enter Tryd.func31, Tryd.ntmps31
    go_wp2
    go_ret
    exact ⟨⟨_, rfl, .inr ⟨HB.out, rfl⟩⟩, f1⟩
  by_cases c1 : 4096 < p.temp
  · have HB : Hid (¬ p.Ok) := fun o => by have := o.t1; omega
    go_enter Tryd.func31, Tryd.ntmps31
    go_wp2
    go_ret
    exact ⟨⟨_, rfl, .inr ⟨HB.out, rfl⟩⟩, f1⟩
  by_cases c2 : p.topk < 0
  · have HB : Hid (¬ p.Ok) := fun o => by have := o.k0; omega
    go_enter Tryd.func31, Tryd.ntmps31
    go_wp2
    go_ret
    exact ⟨⟨_, rfl, .inr ⟨HB.out, rfl⟩⟩, f1⟩
  by_cases c3 : 64 < p.topk
  · have HB : Hid (¬ p.Ok) := fun o => by have := o.k1; omega
    go_enter Tryd.func31, Tryd.ntmps31
    go_wp2
    go_ret
    exact ⟨⟨_, rfl, .inr ⟨HB.out, rfl⟩⟩, f1⟩
  by_cases c4 : p.topp < 1
  · have HB : Hid (¬ p.Ok) := fun o => by have := o.p0; omega
    go_enter Tryd.func31, Tryd.ntmps31
    go_wp2
    go_ret
    exact ⟨⟨_, rfl, .inr ⟨HB.out, rfl⟩⟩, f1⟩
  by_cases c5 : 1000 < p.topp
  · have HB : Hid (¬ p.Ok) := fun o => by have := o.p1; omega
    go_enter Tryd.func31, Tryd.ntmps31
    go_wp2
    go_ret
    exact ⟨⟨_, rfl, .inr ⟨HB.out, rfl⟩⟩, f1⟩
  by_cases c6 : p.pen < 64
  · have HB : Hid (¬ p.Ok) := fun o => by have := o.n0; omega
    go_enter Tryd.func31, Tryd.ntmps31
    go_wp2
    go_ret
    exact ⟨⟨_, rfl, .inr ⟨HB.out, rfl⟩⟩, f1⟩
  by_cases c7 : 1024 < p.pen
  · have HB : Hid (¬ p.Ok) := fun o => by have := o.n1; omega
    go_enter Tryd.func31, Tryd.ntmps31
    go_wp2
    go_ret
    exact ⟨⟨_, rfl, .inr ⟨HB.out, rfl⟩⟩, f1⟩
  have HO : Hid p.Ok := ⟨by omega, by omega, by omega, by omega, by omega, by omega, by omega, by omega⟩
  go_enter Tryd.func31, Tryd.ntmps31
  go_wp2
  go_ret
  exact ⟨⟨_, rfl, .inl ⟨HO.out, rfl⟩⟩, f1⟩
def gatL (k : Int) (g : Nat → Int) (n : Nat) (M : Nat → Bool) (j : Nat) : List (Int × Int) := topL k (((ordL g n).take j).filter fun x => M x.1.toNat)
theorem topL_nil (k : Int) : topL k [] = [] := by unfold topL; split <;> simp
theorem gatL_zero (k : Int) (g : Nat → Int) (n : Nat) (M : Nat → Bool) : gatL k g n M 0 = [] := topL_nil k
theorem gatL_all (k : Int) (g : Nat → Int) (n : Nat) (M : Nat → Bool) : gatL k g n M n = topL k (canL g n M) := by
  unfold gatL canL
  rw [List.take_of_length_le (by rw [ordL_len]; exact Nat.le_refl _)]
theorem take_step {g : Nat → Int} {n j : Nat} (hj : j < n) : (ordL g n).take (j + 1) = (ordL g n).take j ++ [((sg g n j : Int), g (sg g n j))] := by
  rw [List.take_add_one, (ordL_get (f := g) hj).1]
  rfl
theorem gatL_skip {k : Int} {g : Nat → Int} {n j : Nat} {M : Nat → Bool} (hj : j < n) (hM : M (sg g n j) = false) : gatL k g n M (j + 1) = gatL k g n M j := by
  unfold gatL
  rw [take_step hj, List.filter_append]
  have : List.filter (fun x : Int × Int => M x.1.toNat) [((sg g n j : Int), g (sg g n j))] = [] := by simp [hM]
  rw [this, List.append_nil]
theorem topL_full {k : Int} (hk : 0 < k) {X : List (Int × Int)} (x : Int × Int) (h : ((topL k X).length : Int) = k) : topL k (X ++ [x]) = topL k X := by
  unfold topL at h ⊢
  rw [if_neg (by omega)] at h ⊢
  rw [List.length_take] at h
  rw [if_neg (by omega), List.take_append_of_le_length (by omega)]
theorem topL_more {k : Int} (hk : 0 ≤ k) {X : List (Int × Int)} (x : Int × Int) (h : k = 0 ∨ ((topL k X).length : Int) ≠ k) : topL k (X ++ [x]) = topL k X ++ [x] := by
  unfold topL at h ⊢
  by_cases h0 : k = 0
  · rw [if_pos h0, if_pos h0]
  · rw [if_neg h0] at h ⊢
    rw [if_neg h0]
    have h1 : ((X.take k.toNat).length : Int) ≠ k := by rcases h with h | h <;> first | exact absurd h h0 | exact h
    rw [List.length_take] at h1
    have h2 : X.length < k.toNat := by omega
    rw [List.take_of_length_le (by simp; omega), List.take_of_length_le (by omega)]
theorem gat_filter {g : Nat → Int} {n j : Nat} {M : Nat → Bool} (hj : j < n) (hM : M (sg g n j) = true) : ((ordL g n).take (j + 1)).filter (fun x => M x.1.toNat) = ((ordL g n).take j).filter (fun x => M x.1.toNat) ++ [((sg g n j : Int), g (sg g n j))] := by
  rw [take_step hj, List.filter_append]
  have : List.filter (fun x : Int × Int => M x.1.toNat) [((sg g n j : Int), g (sg g n j))] = [((sg g n j : Int), g (sg g n j))] := by simp [hM]
  rw [this]
theorem gatL_full {k : Int} (hk : 0 < k) {g : Nat → Int} {n j : Nat} {M : Nat → Bool} (hj : j < n) (hM : M (sg g n j) = true) (h : ((gatL k g n M j).length : Int) = k) : gatL k g n M (j + 1) = gatL k g n M j := by
  unfold gatL at h ⊢
  rw [gat_filter hj hM]
  exact topL_full hk _ h
theorem gatL_more {k : Int} (hk : 0 ≤ k) {g : Nat → Int} {n j : Nat} {M : Nat → Bool} (hj : j < n) (hM : M (sg g n j) = true) (h : k = 0 ∨ ((gatL k g n M j).length : Int) ≠ k) : gatL k g n M (j + 1) = gatL k g n M j ++ [((sg g n j : Int), g (sg g n j))] := by
  unfold gatL at h ⊢
  rw [gat_filter hj hM]
  exact topL_more hk _ h
theorem gatL_len (k : Int) (g : Nat → Int) (n : Nat) (M : Nat → Bool) (j : Nat) : (gatL k g n M j).length ≤ j := by
  unfold gatL
  have h1 : (topL k (((ordL g n).take j).filter fun x => M x.1.toNat)).length ≤ (((ordL g n).take j).filter fun x => M x.1.toNat).length := by
    unfold topL
    split
    · exact Nat.le_refl _
    · rw [List.length_take]; omega
  have h2 := List.length_filter_le (fun x : Int × Int => M x.1.toNat) ((ordL g n).take j)
  rw [List.length_take] at h2
  omega
/-- the first one's score, or the one's that comes -/
def bestOf (A : List (Int × Int)) (x : Int) : Int := if A = [] then x else (A.getD 0 (0, 0)).2
theorem weL_app (temp : Int) (A : List (Int × Int)) (x : Int × Int) : weL temp (A ++ [x]) = weL temp A ++ [(x.1, wt temp (bestOf A x.2) x.2)] := by
  cases A with
  | nil => rfl
  | cons a r =>
    unfold weL bestOf
    rw [List.map_append]
    rfl
/-- where Temp is 0 the first one that may come is the answer -/
theorem gat_first {k : Int} (hk : 0 ≤ k) {g : Nat → Int} {n j : Nat} {M : Nat → Bool} (hj : j < n) (hM : M (sg g n j) = true) (h : gatL k g n M j = []) : ∃ r, canL g n M = ((sg g n j : Int), g (sg g n j)) :: r := by
  have h1 : ((ordL g n).take j).filter (fun x => M x.1.toNat) = [] := by
    unfold gatL topL at h
    split at h
    · exact h
    · rename_i hk0
      cases hX : ((ordL g n).take j).filter (fun x => M x.1.toNat) with
      | nil => rfl
      | cons a r =>
        rw [hX] at h
        have : ((a :: r).take k.toNat).length = 0 := by rw [h]; rfl
        rw [List.length_take] at this
        simp at this
        omega
  refine ⟨((ordL g n).drop (j + 1)).filter fun x => M x.1.toNat, ?_⟩
  unfold canL
  have h2 : ordL g n = (ordL g n).take (j + 1) ++ (ordL g n).drop (j + 1) := (List.take_append_drop _ _).symm
  rw [h2, List.filter_append]
  rw [← h2, gat_filter hj hM, h1]
  rfl
end Go.Proofs.YtjjfbpjejhjdiabDoor
