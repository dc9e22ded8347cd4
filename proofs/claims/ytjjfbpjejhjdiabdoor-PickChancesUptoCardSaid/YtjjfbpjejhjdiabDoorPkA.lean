import Derived.Test.YtjjfbpjejhjdiabDoorPMa
import Derived.Test.YtjjfbpjejhjdiabDoorHA
namespace Go.Proofs.YtjjfbpjejhjdiabDoor
open Go.RowKit
/-! pick.Check. -/
def pv (p : Prm) : Nat → Int
  | 0 => p.temp
  | 1 => p.topk
  | 2 => p.topp
  | _ => p.pen
def plo : Nat → Int
  | 0 => 0
  | 1 => 0
  | 2 => 1
  | _ => 64
def phi : Nat → Int
  | 0 => 4096
  | 1 => 64
  | 2 => 1000
  | _ => 1024
theorem Prm.ok_iff (p : Prm) : p.Ok ↔ ∀ k, k < 4 → plo k ≤ pv p k ∧ pv p k ≤ phi k := by
  constructor
  · intro h k hk
    match k, hk with
    | 0, _ => exact ⟨h.t0, h.t1⟩
    | 1, _ => exact ⟨h.k0, h.k1⟩
    | 2, _ => exact ⟨h.p0, h.p1⟩
    | 3, _ => exact ⟨h.n0, h.n1⟩
  · intro h
    exact ⟨(h 0 (by omega)).1, (h 0 (by omega)).2, (h 1 (by omega)).1, (h 1 (by omega)).2, (h 2 (by omega)).1, (h 2 (by omega)).2, (h 3 (by omega)).1, (h 3 (by omega)).2⟩
/-- Check's answer -/
def IsChk (p : Prm) (er : Int) : Prop := (p.Ok ∧ er = 0) ∨ (¬ p.Ok ∧ er = 100)
def ptArr (p : Prm) : Array Value := #[.int .i64 p.temp, .int .i64 0, .int .i64 4096, .int .i64 p.topk, .int .i64 0, .int .i64 64, .int .i64 p.topp, .int .i64 1, .int .i64 1000, .int .i64 p.pen, .int .i64 64, .int .i64 1024]
structure PtAt (w : World) (b : Nat) (p : Prm) : Prop where
  c0 : ∀ k, k < 4 → w.cell? ⟨b, k * 3, none⟩ = some (.int .i64 (pv p k))
  c1 : ∀ k, k < 4 → w.cell? ⟨b, k * 3 + 1, none⟩ = some (.int .i64 (plo k))
  c2 : ∀ k, k < 4 → w.cell? ⟨b, k * 3 + 2, none⟩ = some (.int .i64 (phi k))
theorem PtAt.new (w : World) (t : TypeId) (p : Prm) : PtAt (w.alloc (.cells (ptArr p) t)) w.heap.size p := by
  refine ⟨fun k hk => ?_, fun k hk => ?_, fun k hk => ?_⟩
  all_goals
    match k, hk with
    | 0, _ => simp [ptArr, pv, plo, phi]
    | 1, _ => simp [ptArr, pv, plo, phi]
    | 2, _ => simp [ptArr, pv, plo, phi]
    | 3, _ => simp [ptArr, pv, plo, phi]
theorem PtAt.fresh {w w' : World} {b : Nat} {p : Prm} (h : PtAt w b p) (f : Below w.heap.size w w') : PtAt w' b p :=
  ⟨fun k hk => fresh_cell f (h.c0 k hk), fun k hk => fresh_cell f (h.c1 k hk), fun k hk => fresh_cell f (h.c2 k hk)⟩
def prmV (p : Prm) : Array Value := #[.int .i64 p.temp, .int .i64 p.topk, .int .i64 p.topp, .int .i64 p.pen, .int .u64 (p.seed : Int)]
set_option maxRecDepth 20000 in
set_option maxHeartbeats 1600000 in
theorem check_any (p : Prm) (w : World) : Calls Tryd.prog 22 #[.agg #[.int .i64 p.temp, .int .i64 p.topk, .int .i64 p.topp, .int .i64 p.pen, .int .u64 (p.seed : Int)]] w fun e w' => (∃ er, e = .returned (.int .i64 er) ∧ IsChk p er) ∧ Below w.heap.size w w' := by
  have HP := hidd (fun w t => PtAt.new w t p)
  go_enter Tryd.func22, Tryd.ntmps22
  go_wp2
  have f1 := fresh_trans (fresh_alloc w (.cells #[.int .i64 p.temp, .int .i64 p.topk, .int .i64 p.topp, .int .i64 p.pen, .int .u64 (p.seed : Int)] 24)) (fresh_alloc _ (.cells (ptArr p) 64))
  have h1 := HP.out (w.alloc (.cells #[.int .i64 p.temp, .int .i64 p.topk, .int .i64 p.topp, .int .i64 p.pen, .int .u64 (p.seed : Int)] 24)) 64
  go_loopw [19] (fun i wr => ∃ k : Nat, k ≤ 4 ∧ i = .int .i64 (k : Int) ∧ Hid (∀ j, j < k → plo j ≤ pv p j ∧ pv p j ≤ phi j) ∧ Hid (PtAt wr (w.heap.size + 1) p) ∧ Below w.heap.size w wr) (fun i _ => 4 - (intOf i).toNat)
  case atStart => exact ⟨0, by omega, rfl, fun j hj => absurd hj (by omega), (by show PtAt _ _ _; rw [World.size_alloc] at h1; exact h1), f1⟩
  case round =>
    obtain ⟨k, hk, rfl, HE, HT, hf⟩ := hrel
    by_cases hlt : k < 4
    · have d0 := HT.out.c0 k hlt
      have d1 := HT.out.c1 k hlt
      have d2 := HT.out.c2 k hlt
      by_cases a : pv p k < plo k
      · have HA := hidd a
        go_wp2
        go_ret
        exact ⟨⟨_, rfl, .inr ⟨fun ok => (by have := ((Prm.ok_iff p).1 ok k hlt).1; have := HA.out; omega), rfl⟩⟩, hf.alloc hf.size _⟩
      · by_cases b : phi k < pv p k
        · have HB := hidd b
          go_wp2
          go_ret
          exact ⟨⟨_, rfl, .inr ⟨fun ok => (by have := ((Prm.ok_iff p).1 ok k hlt).2; have := HB.out; omega), rfl⟩⟩, hf.alloc hf.size _⟩
        · have HAB := hidd (show plo k ≤ pv p k ∧ pv p k ≤ phi k by omega)
          go_wp2
          go_roundw
          case rel => exact ⟨k + 1, by omega, by go_num, fun j hj => (by
            by_cases q : j = k
            · rw [q]; exact HAB.out
            · exact HE.out j (by omega)), HT.out.fresh (fresh_alloc _ _), hf.alloc hf.size _⟩
          case measure => simp [intOf]; omega
    · obtain rfl : k = 4 := by omega
      go_wp2
      go_ret
      exact ⟨⟨_, rfl, .inl ⟨(Prm.ok_iff p).2 HE.out, rfl⟩⟩, hf⟩
end Go.Proofs.YtjjfbpjejhjdiabDoor
