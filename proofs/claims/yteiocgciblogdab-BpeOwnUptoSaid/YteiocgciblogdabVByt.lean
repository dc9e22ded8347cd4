import Derived.Test.YteiocgciblogdabVDec
namespace Go.Proofs.Yteiocgciblogdab
open Go.RowKit
/-! Bytes of both. -/
theorem one_int (w : World) (o : Obj) (T : TypeId) (t : Int) : RdA ((w.alloc o).alloc (.cells #[.int .i64 t] T)) (some ⟨w.heap.size + 1, 0, none⟩) 1 1 1 (fun i => .int .i64 ((fun _ => t) i)) := by
  refine ⟨Nat.le_refl _, by simp [maxLen], fun _ => ⟨_, _, rfl, fun j hj => ?_⟩⟩
  obtain rfl : j = 0 := by omega
  rw [show w.heap.size + 1 = (w.alloc o).heap.size by simp]
  exact new_cell _ _ _
set_option maxHeartbeats 1000000 in
theorem pbytes_any {w : World} {d : VD} {bo po : Option Addr} {cb cp : Nat} (hb : RdA w bo 1 d.nb cb (fun i => .int .u8 (d.B i))) (hp : RdA w po 2 d.np cp (tcs d.P d.Q)) (t x : Int) (l : List Int) (hx : d.decOut (fun _ => t) 1 x l) :
    Calls Try.prog 15 #[.agg #[.slice bo d.nb cb, .slice po d.np cp], .int .i64 t] w fun e w' => ∃ v, e = .returned (.tuple #[v, .int .i64 x]) ∧ OwnB w' w.heap.size v l ∧ Below w.heap.size w w' := by
  have hf0 := fresh_trans (fresh_alloc w (.cells #[.slice bo d.nb cb, .slice po d.np cp] 25)) (fresh_alloc _ (.cells #[.int .i64 t] 3))
  have HX := hidd hx
  clear hx
  go_enter Try.func15, Try.ntmps15
  go_wp2_with fail
  have hk : RdA ((w.alloc (.cells #[.slice bo d.nb cb, .slice po d.np cp] 25)).alloc (.cells #[.int .i64 t] 3)) (some ⟨w.heap.size + 1, 0, none⟩) 1 1 1 (fun i => .int .i64 ((fun _ => t) i)) :=
    one_int _ _ _ t
  generalize (w.alloc (.cells #[.slice bo d.nb cb, .slice po d.np cp] 25)).alloc (.cells #[.int .i64 t] 3) = w1 at *
  refine (pdec_any (hb.fresh hf0) (hp.fresh hf0) hk (by omega) x l HX.out).mono ?_
  rintro e w2 ⟨v, rfl, hO, hf2⟩
  have hF := fresh_trans hf0 hf2
  have HO := hidd (show OwnB w2 w.heap.size v l from Own.weaken hO hf0.size)
  clear hO hk
  go_wp2
  go_ret2
  exact ⟨_, rfl, HO.out, hF⟩
theorem dec_one (d : VD) (t : Nat) : d.dec (fun _ => (t : Int)) 1 = d.pc t := by simp [VD.dec]
end Go.Proofs.Yteiocgciblogdab
