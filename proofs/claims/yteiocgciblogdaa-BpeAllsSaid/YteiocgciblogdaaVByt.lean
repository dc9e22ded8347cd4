import Derived.Test.YteiocgciblogdaaVDec
namespace Go.Proofs.Yteiocgciblogdaa
open Go.RowKit
/-! Bytes of both. -/
theorem one_int (w : World) (o : Obj) (T : TypeId) (t : Int) : RdA ((w.alloc o).alloc (.cells #[.int .i64 t] T)) (some ⟨w.heap.size + 1, 0, none⟩) 1 1 1 (fun i => .int .i64 ((fun _ => t) i)) := by
  refine ⟨Nat.le_refl _, by simp [maxLen], fun _ => ⟨_, _, rfl, fun j hj => ?_⟩⟩
  obtain rfl : j = 0 := by omega
  rw [show w.heap.size + 1 = (w.alloc o).heap.size by simp]
  exact new_cell _ _ _
set_option maxHeartbeats 1000000 in
theorem pbytes_any {w : World} {d : VD} {bo po : Option Addr} {cb cp : Nat} (hb : RdA w bo 1 d.nb cb (fun i => .int .u8 (d.B i))) (hp : RdA w po 2 d.np cp (tcs d.P d.Q)) (t x : Int) (l : List Int) (hx : d.decOut (fun _ => t) 1 x l) :
    Calls Try.prog 15 #[.agg #[.slice bo d.nb cb, .slice po d.np cp], .int .i64 t] w fun e w' => ∃ v, e = .returned (.tuple #[v, .int .i64 x]) ∧ OwnB w' w.heap.size v l ∧ Below w.heap.size w w' := by
  have hf0 := fresh_trans (fresh_alloc w (.cells #[.slice bo d.nb cb, .slice po d.np cp] 25)) (fresh_alloc _ (.cells #[.int .i64 t] 3))
  have HX := hidd hx
  clear hx
  go_enter Try.func15, Try.ntmps15
  go_wp2_with fail
  have hk : RdA ((w.alloc (.cells #[.slice bo d.nb cb, .slice po d.np cp] 25)).alloc (.cells #[.int .i64 t] 3)) (some ⟨w.heap.size + 1, 0, none⟩) 1 1 1 (fun i => .int .i64 ((fun _ => t) i)) :=
    one_int _ _ _ t
  generalize (w.alloc (.cells #[.slice bo d.nb cb, .slice po d.np cp] 25)).alloc (.cells #[.int .i64 t] 3) = w1 at *
  refine (pdec_any (hb.fresh hf0) (hp.fresh hf0) hk (by omega) x l HX.out).mono ?_
  rintro e w2 ⟨v, rfl, hO, hf2⟩
  have hF := fresh_trans hf0 hf2
  have HO := hidd (show OwnB w2 w.heap.size v l from Own.weaken hO hf0.size)
  clear hO hk
  go_wp2
  go_ret2
  exact ⟨_, rfl, HO.out, hF⟩
theorem dec_one (d : VD) (t : Nat) : d.dec (fun _ => (t : Int)) 1 = d.pc t := by simp [VD.dec]
set_option maxRecDepth 20000 in
set_option maxHeartbeats 2000000 in
theorem rbytes_any {w : World} {d : VD} {bo po : Option Addr} {cb cp : Nat} (hb : RdA w bo 1 d.nb cb (fun i => .int .u8 (d.B i))) (hp : RdA w po 2 d.np cp (tcs d.P d.Q)) (hN : d.np ≤ 8796093022208) (t x : Int) (l : List Int) (hx : d.decOut (fun _ => t) 1 x l) :
    Calls Try.prog 16 #[.agg #[.slice bo d.nb cb, .slice po d.np cp], .int .i64 t] w fun e w' => ∃ v, e = .returned (.tuple #[v, .int .i64 x]) ∧ OwnB w' w.heap.size v l ∧ Below w.heap.size w w' := by
  have hf0 := fresh_alloc w (.cells #[.slice bo d.nb cb, .slice po d.np cp] 25)
  have r0 := row2_new w 25 (.slice bo d.nb cb) (.slice po d.np cp)
  rcases hx with ⟨hR, rfl, rfl⟩ | ⟨hR, ⟨i, _, hbad⟩, rfl, rfl⟩ | ⟨hR, hg, rfl, rfl⟩
  · have HR := hidd hR
    clear hR r0
    go_enter Try.func16, Try.ntmps16
    go_wp2_with fail
    refine (rsize_any (hb.fresh hf0) (hp.fresh hf0) hN 0 (.inr ⟨HR.out, rfl⟩)).mono ?_
    rintro e w2 ⟨rfl, hf2⟩
    have hF := fresh_trans hf0 hf2
    go_wp2
    go_ret2
    exact ⟨_, rfl, ownB_nil _ _, hF⟩
  · obtain ⟨z1, z2, z3⟩ := hR.cnt
    have HR := hidd hR
    have hbad' : t < 0 ∨ (d.nb : Int) + 1 + d.np ≤ t := by
      unfold VD.good at hbad
      dsimp only at hbad
      by_cases h : t < 0
      · exact .inl h
      · right
        by_cases h2 : (d.nb : Int) + 1 + d.np ≤ t
        · exact h2
        · exact absurd ⟨by omega, by omega⟩ hbad
    clear hR r0 hbad
    rcases hbad' with hneg | hbig
    · go_enter Try.func16, Try.ntmps16
      go_wp2_with fail
      refine (rsize_any (hb.fresh hf0) (hp.fresh hf0) hN _ (.inl ⟨HR.out, rfl⟩)).mono ?_
      rintro e w2 ⟨rfl, hf2⟩
      have hF := fresh_trans hf0 hf2
      go_wp2
      go_ret2
      exact ⟨_, rfl, ownB_nil _ _, hF⟩
    · go_enter Try.func16, Try.ntmps16
      go_wp2_with fail
      refine (rsize_any (hb.fresh hf0) (hp.fresh hf0) hN _ (.inl ⟨HR.out, rfl⟩)).mono ?_
      rintro e w2 ⟨rfl, hf2⟩
      have hF := fresh_trans hf0 hf2
      go_wp2
      go_ret2
      exact ⟨_, rfl, ownB_nil _ _, hF⟩
  · obtain ⟨z1, z2, z3⟩ := hR.cnt
    obtain ⟨g1, g2⟩ := hg 0 (by omega)
    dsimp only at g1 g2
    have HR := hidd hR
    obtain ⟨k, rfl⟩ : ∃ k : Nat, t = (k : Int) := ⟨t.toNat, by omega⟩
    have hk : k < d.nb + 1 + d.np := by omega
    rw [dec_one]
    clear hR hg
    go_enter Try.func16, Try.ntmps16
    go_wp2_with fail
    refine (rsize_any (hb.fresh hf0) (hp.fresh hf0) hN _ (.inl ⟨HR.out, rfl⟩)).mono ?_
    rintro e w2 ⟨rfl, hf2⟩
    have hF := fresh_trans hf0 hf2
    obtain ⟨y0, y1⟩ := row2 (r0.of_block (hf2.block _ r0.lt))
    clear r0 hf2
    go_wp2_with fail
    refine (piece_ref HR.out k hk w2 (hb.fresh hF) (hp.fresh hF)).mono ?_
    rintro e w3 ⟨v, rfl, hO, hf3⟩
    have hF3 := fresh_trans hF hf3
    have HO := hidd (show OwnB w3 w.heap.size v (d.pc k) from Own.weaken hO hF.size)
    clear hO y0 y1
    go_wp2
    go_ret2
    exact ⟨_, rfl, HO.out, hF3⟩
end Go.Proofs.Yteiocgciblogdaa
