import Derived.Test.YtmhjpfjhppcfoaaGreatDoorEgE
namespace Go.Proofs.YtmhjpfjhppcfoaaGreatDoor
open Go.RowKit
/-! The reference's engine. -/
set_option maxRecDepth 100000 in
set_option maxHeartbeats 8000000 in
theorem simnew_any (w : World) (a0 a1 a2 a3 a4 a5 a6 a7 a8 a9 a10 a11 a12 a13 a14 a15 a16 a17 v0 v1 s2 s3 s4 : Value) {bn sn : Nat} (hB : 1 ≤ bn ∧ bn ≤ 256) (hS : 1 ≤ sn ∧ sn ≤ 16) :
    Calls Tryz.prog 22 #[.agg #[a0, a1, a2, a3, a4, a5, a6, a7, a8, a9, a10, a11, a12, a13, a14, a15, a16, a17], .agg #[v0, v1], .agg #[.int .i64 (bn : Int), .int .i64 (sn : Int), s2, s3, s4]] w fun e w' => ∃ s, e = .returned (.pointer (some ⟨s, 0, none⟩)) ∧ Below w.heap.size w w' := by
  have HNP := hidd (fun z => rnew_ok (L := 1) (W := 1) (B := bn) (S := sn) z (by decide) (by decide) hB hS)
  have HNC := hidd (fun z g => rcache_any z g)
  have HF : Hid (Below w.heap.size w (((w.alloc (.cells #[a0, a1, a2, a3, a4, a5, a6, a7, a8, a9, a10, a11, a12, a13, a14, a15, a16, a17] 31)).alloc (.cells #[v0, v1] 35)).alloc (.cells #[.int .i64 (bn : Int), .int .i64 (sn : Int), s2, s3, s4] 37))) := ((fresh_alloc w _).alloc (by simp) _).alloc (by simp; omega) _
  have HRW : Hid ((((w.alloc (.cells #[a0, a1, a2, a3, a4, a5, a6, a7, a8, a9, a10, a11, a12, a13, a14, a15, a16, a17] 31)).alloc (.cells #[v0, v1] 35)).alloc (.cells #[.int .i64 (bn : Int), .int .i64 (sn : Int), s2, s3, s4] 37)).rowIs w.heap.size 31 18 (fun i => ([a0, a1, a2, a3, a4, a5, a6, a7, a8, a9, a10, a11, a12, a13, a14, a15, a16, a17] : List Value).getD i undef)) := ((World.rowIs_list w [a0, a1, a2, a3, a4, a5, a6, a7, a8, a9, a10, a11, a12, a13, a14, a15, a16, a17] 31).alloc _).alloc _
  have HRV : Hid ((((w.alloc (.cells #[a0, a1, a2, a3, a4, a5, a6, a7, a8, a9, a10, a11, a12, a13, a14, a15, a16, a17] 31)).alloc (.cells #[v0, v1] 35)).alloc (.cells #[.int .i64 (bn : Int), .int .i64 (sn : Int), s2, s3, s4] 37)).rowIs (w.heap.size + 1) 35 2 (fun i => ([v0, v1] : List Value).getD i undef)) := by
    have := (World.rowIs_list (w.alloc (.cells #[a0, a1, a2, a3, a4, a5, a6, a7, a8, a9, a10, a11, a12, a13, a14, a15, a16, a17] 31)) [v0, v1] 35).alloc (.cells #[.int .i64 (bn : Int), .int .i64 (sn : Int), s2, s3, s4] 37)
    rwa [World.size_alloc] at this
  have HRE : Hid ((((w.alloc (.cells #[a0, a1, a2, a3, a4, a5, a6, a7, a8, a9, a10, a11, a12, a13, a14, a15, a16, a17] 31)).alloc (.cells #[v0, v1] 35)).alloc (.cells #[.int .i64 (bn : Int), .int .i64 (sn : Int), s2, s3, s4] 37)).rowIs (w.heap.size + 2) 37 5 (fun i => ([.int .i64 (bn : Int), .int .i64 (sn : Int), s2, s3, s4] : List Value).getD i undef)) := by
    have := World.rowIs_list ((w.alloc (.cells #[a0, a1, a2, a3, a4, a5, a6, a7, a8, a9, a10, a11, a12, a13, a14, a15, a16, a17] 31)).alloc (.cells #[v0, v1] 35)) [.int .i64 (bn : Int), .int .i64 (sn : Int), s2, s3, s4] 37
    rwa [World.size_alloc, World.size_alloc] at this
  go_enter Tryz.func22, Tryz.ntmps22
  go_upto_region 1 with fail
  generalize (((w.alloc (.cells #[a0, a1, a2, a3, a4, a5, a6, a7, a8, a9, a10, a11, a12, a13, a14, a15, a16, a17] 31)).alloc (.cells #[v0, v1] 35)).alloc (.cells #[.int .i64 (bn : Int), .int .i64 (sn : Int), s2, s3, s4] 37)) = w1 at *
  obtain ⟨g, HG⟩ : ∃ g, Hid (g = w.heap.size) := ⟨_, rfl⟩
  rw [← HG.out] at HRW HRV HRE ⊢
  have HC : Hid (∀ z, Below w1.heap.size w1 z → z.cell? ⟨g, 0, none⟩ = some a0 ∧ z.cell? ⟨g, 1, none⟩ = some a1 ∧ z.cell? ⟨g, 2, none⟩ = some a2 ∧ z.cell? ⟨g, 3, none⟩ = some a3 ∧ z.cell? ⟨g, 4, none⟩ = some a4 ∧ z.cell? ⟨g, 5, none⟩ = some a5 ∧ z.cell? ⟨g, 6, none⟩ = some a6 ∧ z.cell? ⟨g, 7, none⟩ = some a7 ∧ z.cell? ⟨g, 8, none⟩ = some a8 ∧ z.cell? ⟨g, 9, none⟩ = some a9 ∧ z.cell? ⟨g, 10, none⟩ = some a10 ∧ z.cell? ⟨g, 11, none⟩ = some a11 ∧ z.cell? ⟨g, 12, none⟩ = some a12 ∧ z.cell? ⟨g, 13, none⟩ = some a13 ∧ z.cell? ⟨g, 14, none⟩ = some a14 ∧ z.cell? ⟨g, 15, none⟩ = some a15 ∧ z.cell? ⟨g, 16, none⟩ = some a16 ∧ z.cell? ⟨g, 17, none⟩ = some a17 ∧ z.cell? ⟨g + 1, 0, none⟩ = some v0 ∧ z.cell? ⟨g + 1, 1, none⟩ = some v1 ∧ z.cell? ⟨g + 2, 0, none⟩ = some (.int .i64 (bn : Int)) ∧ z.cell? ⟨g + 2, 1, none⟩ = some (.int .i64 (sn : Int)) ∧ z.cell? ⟨g + 2, 2, none⟩ = some s2 ∧ z.cell? ⟨g + 2, 3, none⟩ = some s3 ∧ z.cell? ⟨g + 2, 4, none⟩ = some s4) := fun z hz => ⟨fresh_cell hz (HRW.out.cell (i := 0) (by decide)), fresh_cell hz (HRW.out.cell (i := 1) (by decide)), fresh_cell hz (HRW.out.cell (i := 2) (by decide)), fresh_cell hz (HRW.out.cell (i := 3) (by decide)), fresh_cell hz (HRW.out.cell (i := 4) (by decide)), fresh_cell hz (HRW.out.cell (i := 5) (by decide)), fresh_cell hz (HRW.out.cell (i := 6) (by decide)), fresh_cell hz (HRW.out.cell (i := 7) (by decide)), fresh_cell hz (HRW.out.cell (i := 8) (by decide)), fresh_cell hz (HRW.out.cell (i := 9) (by decide)), fresh_cell hz (HRW.out.cell (i := 10) (by decide)), fresh_cell hz (HRW.out.cell (i := 11) (by decide)), fresh_cell hz (HRW.out.cell (i := 12) (by decide)), fresh_cell hz (HRW.out.cell (i := 13) (by decide)), fresh_cell hz (HRW.out.cell (i := 14) (by decide)), fresh_cell hz (HRW.out.cell (i := 15) (by decide)), fresh_cell hz (HRW.out.cell (i := 16) (by decide)), fresh_cell hz (HRW.out.cell (i := 17) (by decide)), fresh_cell hz (HRV.out.cell (i := 0) (by decide)), fresh_cell hz (HRV.out.cell (i := 1) (by decide)), fresh_cell hz (HRE.out.cell (i := 0) (by decide)), fresh_cell hz (HRE.out.cell (i := 1) (by decide)), fresh_cell hz (HRE.out.cell (i := 2) (by decide)), fresh_cell hz (HRE.out.cell (i := 3) (by decide)), fresh_cell hz (HRE.out.cell (i := 4) (by decide))⟩
  have e0 : w1.cell? ⟨g + 2, 0, none⟩ = some (.int .i64 (bn : Int)) := HRE.out.cell (i := 0) (by decide)
  have e1 : w1.cell? ⟨g + 2, 1, none⟩ = some (.int .i64 (sn : Int)) := HRE.out.cell (i := 1) (by decide)
  clear HRW HRV HRE
  go_upto_region 2 with (go_at_call 64; refine (HNP.out _).mono ?_; rintro e w2 ⟨rfl, hb2⟩)
  have HB2 := hidd hb2
  clear hb2 e0 e1 HNP
  obtain ⟨pg, HPG⟩ : ∃ p, Hid (p = w1.heap.size) := ⟨_, rfl⟩
  rw [← HPG.out]
  have HD : Hid (Below w2.heap.size w2 w2.drew) := (Below.refl _ w2).drew
  have S2 := HC.out _ (HB2.out.trans (HD.out.mono HB2.out.size))
  have HN2 : Hid (Calls Tryz.prog 65 #[.pointer (some ⟨pg, 0, none⟩)] w2.drew fun e w' => ∃ c, e = .returned (.pointer (some ⟨c, 0, none⟩)) ∧ (w'.cell? ⟨g, 0, none⟩ = some a0 ∧ w'.cell? ⟨g, 1, none⟩ = some a1 ∧ w'.cell? ⟨g, 2, none⟩ = some a2 ∧ w'.cell? ⟨g, 3, none⟩ = some a3 ∧ w'.cell? ⟨g, 4, none⟩ = some a4 ∧ w'.cell? ⟨g, 5, none⟩ = some a5 ∧ w'.cell? ⟨g, 6, none⟩ = some a6 ∧ w'.cell? ⟨g, 7, none⟩ = some a7 ∧ w'.cell? ⟨g, 8, none⟩ = some a8 ∧ w'.cell? ⟨g, 9, none⟩ = some a9 ∧ w'.cell? ⟨g, 10, none⟩ = some a10 ∧ w'.cell? ⟨g, 11, none⟩ = some a11 ∧ w'.cell? ⟨g, 12, none⟩ = some a12 ∧ w'.cell? ⟨g, 13, none⟩ = some a13 ∧ w'.cell? ⟨g, 14, none⟩ = some a14 ∧ w'.cell? ⟨g, 15, none⟩ = some a15 ∧ w'.cell? ⟨g, 16, none⟩ = some a16 ∧ w'.cell? ⟨g, 17, none⟩ = some a17 ∧ w'.cell? ⟨g + 1, 0, none⟩ = some v0 ∧ w'.cell? ⟨g + 1, 1, none⟩ = some v1 ∧ w'.cell? ⟨g + 2, 0, none⟩ = some (.int .i64 (bn : Int)) ∧ w'.cell? ⟨g + 2, 1, none⟩ = some (.int .i64 (sn : Int)) ∧ w'.cell? ⟨g + 2, 2, none⟩ = some s2 ∧ w'.cell? ⟨g + 2, 3, none⟩ = some s3 ∧ w'.cell? ⟨g + 2, 4, none⟩ = some s4) ∧ Hid (Below w1.heap.size w1 w')) := by
    refine (HNC.out w2.drew pg).mono ?_
    rintro e w' ⟨c, h1, h2⟩
    have h3 := (HB2.out.trans (HD.out.mono HB2.out.size)).trans (h2.mono (HB2.out.trans (HD.out.mono HB2.out.size)).size)
    exact ⟨c, h1, HC.out _ h3, h3⟩
  clear HNC HC HD
  go_region_held3 (fun w' => w'.cell? ⟨g, 0, none⟩ = some a0 ∧ w'.cell? ⟨g, 1, none⟩ = some a1 ∧ w'.cell? ⟨g, 2, none⟩ = some a2 ∧ w'.cell? ⟨g, 3, none⟩ = some a3 ∧ w'.cell? ⟨g, 4, none⟩ = some a4 ∧ w'.cell? ⟨g, 5, none⟩ = some a5 ∧ w'.cell? ⟨g, 6, none⟩ = some a6 ∧ w'.cell? ⟨g, 7, none⟩ = some a7 ∧ w'.cell? ⟨g, 8, none⟩ = some a8 ∧ w'.cell? ⟨g, 9, none⟩ = some a9 ∧ w'.cell? ⟨g, 10, none⟩ = some a10 ∧ w'.cell? ⟨g, 11, none⟩ = some a11 ∧ w'.cell? ⟨g, 12, none⟩ = some a12 ∧ w'.cell? ⟨g, 13, none⟩ = some a13 ∧ w'.cell? ⟨g, 14, none⟩ = some a14 ∧ w'.cell? ⟨g, 15, none⟩ = some a15 ∧ w'.cell? ⟨g, 16, none⟩ = some a16 ∧ w'.cell? ⟨g, 17, none⟩ = some a17 ∧ w'.cell? ⟨g + 1, 0, none⟩ = some v0 ∧ w'.cell? ⟨g + 1, 1, none⟩ = some v1 ∧ w'.cell? ⟨g + 2, 0, none⟩ = some (.int .i64 (bn : Int)) ∧ w'.cell? ⟨g + 2, 1, none⟩ = some (.int .i64 (sn : Int)) ∧ w'.cell? ⟨g + 2, 2, none⟩ = some s2 ∧ w'.cell? ⟨g + 2, 3, none⟩ = some s3 ∧ w'.cell? ⟨g + 2, 4, none⟩ = some s4)
    (first | (with_reducible exact S2) | (with_reducible exact T3) | go_keep)
    (first | (go_at_call 65; with_reducible refine HN2.out.mono ?_; rintro e w3 ⟨pc, rfl, T3, H3⟩))
  all_goals
    have HB3 := hidd (HF.out.trans (H3.out.mono HF.out.size))
    clear S2 T3 HN2
    go_wp2
    go_ret
    exact ⟨_, rfl, HB3.out.alloc HB3.out.size _⟩
end Go.Proofs.YtmhjpfjhppcfoaaGreatDoor
