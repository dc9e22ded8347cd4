import Derived.Test.YtemmghneohnigaaDoorWvS
import Derived.Deep.RegionHeld3
import Derived.BigRegion
namespace Go.Proofs.YtemmghneohnigaaDoor
open Go.RowKit
/-! plainly: the program's line as the reference's, its lists copied. -/
theorem Own.sl {w : World} {base : Nat} {e : TypeId} {v : Value} {n : Nat} {cs : Nat → Value} (h : Own w base e 1 v n cs) : ∃ ao cap, v = .slice ao n cap ∧ RdA w ao 1 n cap cs := h.rd
theorem step_store_row {P : Program} {ops : Array Oper} {o : Oper} {a : Act} {w : World} {K : Act → World → Prop} {Q : Exit → Act → World → Prop} {E : Prop} (hgd : o.guard = none) (ty : TypeId) (x y : Operand) (ho : o.op = .store ty x y)
    (g : Nat) (cells : Array Value) (hx : a.eval x = .pointer (some ⟨g, 0, none⟩)) (hy : a.eval y = .agg cells) (t : TypeId) (old : Array Value) (hg : w.heap[g]? = some (.cells old t (0, 0))) (hi : (P.info? ty).map (·.size) = some cells.size)
    (hold : old.size = cells.size) (h1 : cells.all (·.oneCell') = true) (h : K (a.put o.dst undef) (w.setRow g cells)) : if Region.wanted o (yielded ops a.tmps) = true then Oper.wp P o a w K Q else E := by
  have hw : Region.wanted o (yielded ops a.tmps) = true := by simp [Region.wanted, hgd]
  rw [if_pos hw]
  exact wp_store_row ty x y ho g cells hx hy t old hg hi hold h1 h
set_option maxRecDepth 20000 in
set_option maxHeartbeats 8000000 in
theorem plainly_any {w : World} {t nums : List Int} {wd gd : ByteArray} {n sd : Int} {ao bo co : Option Addr} {ac bc c cc : Nat} (hr : RdA w ao 1 t.length ac (byc t)) (hn : RdA w bo 1 nums.length bc (fun j => .int .i64 (nums.getD j 0))) (htl : t.length ≤ 140737488351232) (hnl : nums.length ≤ 17592186043904) :
    Calls Tryd.prog 18 #[.agg (lnA wd n ao t.length ac bo nums.length bc sd gd co c cc)] w fun e w' => ∃ a1 c1 a2 c2, e = .returned (.agg (lnA wd n a1 t.length c1 a2 nums.length c2 sd gd co c cc)) ∧ RdA w' a1 1 t.length c1 (byc t) ∧ RdA w' a2 1 nums.length c2 (fun j => .int .i64 (nums.getD j 0)) ∧ Below w.heap.size w w' := by
  have HCB := hidd (fun (w1 : World) (f1 : Below w.heap.size w w1) => copyB_any (hr.fresh f1) (by omega))
  have HCI := hidd (fun (w1 : World) (f1 : Below w.heap.size w w1) => copyI_any (hn.fresh f1) (by omega))
  clear hr hn htl hnl
  have BY : (fun j => Value.int .u8 (t.getD j 0)) = byc t := rfl
  rw [BY] at HCB
  generalize byc t = ct at *
  generalize (fun j => Value.int .i64 (nums.getD j 0)) = cn at *
  generalize t.length = a at *
  generalize nums.length = b at *
  clear BY t nums
  have HB0 := hidd ((Blk.new w 38 (lnA wd n ao a ac bo b bc sd gd co c cc)).fresh (fresh_alloc _ (.cells lz7 35)))
  have HZ0 : Hid (Blk ((w.alloc (.cells (lnA wd n ao a ac bo b bc sd gd co c cc) 38)).alloc (.cells lz7 35)) (w.heap.size + 1) 35 lz7) := by
    have := Blk.new (w.alloc (.cells (lnA wd n ao a ac bo b bc sd gd co c cc) 38)) 35 lz7
    have e : (w.alloc (.cells (lnA wd n ao a ac bo b bc sd gd co c cc) 38)).heap.size = w.heap.size + 1 := by simp
    rw [e] at this
    exact this
  have HF0 := hidd (fresh_trans (fresh_alloc w (.cells (lnA wd n ao a ac bo b bc sd gd co c cc) 38)) (fresh_alloc _ (.cells lz7 35)))
  unfold lz7 at HB0 HZ0 HF0
  go_enter Tryd.func18, Tryd.ntmps18
  go_upto_region 1 with fail
  generalize (w.alloc (.cells (lnA wd n ao a ac bo b bc sd gd co c cc) 38)).alloc (.cells #[.string ⟨#[]⟩, .int .i64 0, .slice none 0 0, .slice none 0 0, .int .u64 0, .string ⟨#[]⟩, .slice none 0 0] 35) = w2 at *
  have HLE : Hid (w.heap.size ≤ w.heap.size + 1) := by show _ ≤ _; omega
  have HNE : Hid (w.heap.size ≠ w.heap.size + 1) := by show _ ≠ _; omega
  obtain ⟨B, eB⟩ : ∃ B, B = w.heap.size := ⟨_, rfl⟩
  obtain ⟨E, eE⟩ : ∃ E, E = w.heap.size + 1 := ⟨_, rfl⟩
  have HLE2 : Hid (w.heap.size ≤ E) := by rw [eE]; exact HLE
  have HNE2 : Hid (B ≠ E) := by rw [eB, eE]; exact HNE
  rw [← eE] at HZ0 ⊢
  rw [← eB] at HB0 ⊢
  clear eB eE HLE HNE
  have SN : Hid (∀ z z', (Below w.heap.size w z ∧ (∃ old, Blk z E 35 old ∧ old.size = 7) ∧ z.cell? ⟨B, 0, none⟩ = some (.string wd) ∧ z.cell? ⟨B, 1, none⟩ = some (.int .i64 n) ∧ z.cell? ⟨B, 2, none⟩ = some (.slice ao a ac) ∧ z.cell? ⟨B, 3, none⟩ = some (.slice bo b bc) ∧ z.cell? ⟨B, 4, none⟩ = some (.int .u64 sd) ∧ z.cell? ⟨B, 5, none⟩ = some (.string gd) ∧ z.cell? ⟨B, 6, none⟩ = some (.slice co c cc)) → Below z.heap.size z z' → (Below w.heap.size w z' ∧ (∃ old, Blk z' E 35 old ∧ old.size = 7) ∧ z'.cell? ⟨B, 0, none⟩ = some (.string wd) ∧ z'.cell? ⟨B, 1, none⟩ = some (.int .i64 n) ∧ z'.cell? ⟨B, 2, none⟩ = some (.slice ao a ac) ∧ z'.cell? ⟨B, 3, none⟩ = some (.slice bo b bc) ∧ z'.cell? ⟨B, 4, none⟩ = some (.int .u64 sd) ∧ z'.cell? ⟨B, 5, none⟩ = some (.string gd) ∧ z'.cell? ⟨B, 6, none⟩ = some (.slice co c cc))) := fun z z' ⟨h1, ⟨old, h2, h2'⟩, h3, h4, h5, h6, h7, h8, h9⟩ f => ⟨fresh_trans h1 f, ⟨old, h2.fresh f, h2'⟩, fresh_cell f h3, fresh_cell f h4, fresh_cell f h5, fresh_cell f h6, fresh_cell f h7, fresh_cell f h8, fresh_cell f h9⟩
  have s0 := SN.out w2 w2.drew ⟨HF0.out, ⟨_, HZ0.out, rfl⟩, HB0.out.cell 0, HB0.out.cell 1, HB0.out.cell 2, HB0.out.cell 3, HB0.out.cell 4, HB0.out.cell 5, HB0.out.cell 6⟩ (Below.refl _ _).drew
  have SROW : Hid (∀ (p p' : Option Addr) (q q' : Nat), (#[.string wd, .int .i64 n, .slice p a q, .slice p' b q', .int .u64 sd, .string gd, .slice co c cc] : Array Value).all (·.oneCell') = true) := fun p p' q q' => by simp [Value.oneCell']
  refine wp_region_held_drew (S := fun z => Below w.heap.size w z ∧ (∃ old, Blk z E 35 old ∧ old.size = 7) ∧ z.cell? ⟨B, 0, none⟩ = some (.string wd) ∧ z.cell? ⟨B, 1, none⟩ = some (.int .i64 n) ∧ z.cell? ⟨B, 2, none⟩ = some (.slice ao a ac) ∧ z.cell? ⟨B, 3, none⟩ = some (.slice bo b bc) ∧ z.cell? ⟨B, 4, none⟩ = some (.int .u64 sd) ∧ z.cell? ⟨B, 5, none⟩ = some (.string gd) ∧ z.cell? ⟨B, 6, none⟩ = some (.slice co c cc)) (by kernel_rfl) s0 (fun hHeld => ?_)
  refine wpAnyH_take (i := 0) (v := .pointer (some ⟨B, 0, none⟩)) rfl (by kernel_rfl) (by kernel_rfl) (by kernel_rfl) (fun _ _ _ h => h) (Or.inl ⟨by rfl, ?ya0⟩) s0 ?ra0
  case ya0 =>
    intro z hz
    obtain ⟨-, -, z0, z1, z2, z3, z4, z5, z6⟩ := hz
    go_simp
    try with_reducible rfl
  refine wpAnyH_take (i := 1) (v := .string wd) rfl (by kernel_rfl) (by kernel_rfl) (by kernel_rfl) (fun _ _ _ h => h) (Or.inl ⟨by rfl, ?ya1⟩) s0 ?ra1
  case ya1 =>
    intro z hz
    obtain ⟨-, -, z0, z1, z2, z3, z4, z5, z6⟩ := hz
    go_simp
    try with_reducible rfl
  refine wpAnyH_take (i := 2) (v := .pointer (some ⟨B, 1, none⟩)) rfl (by kernel_rfl) (by kernel_rfl) (by kernel_rfl) (fun _ _ _ h => h) (Or.inl ⟨by rfl, ?ya2⟩) s0 ?ra2
  case ya2 =>
    intro z hz
    obtain ⟨-, -, z0, z1, z2, z3, z4, z5, z6⟩ := hz
    go_simp
    try with_reducible rfl
  refine wpAnyH_take (i := 3) (v := .int .i64 n) rfl (by kernel_rfl) (by kernel_rfl) (by kernel_rfl) (fun _ _ _ h => h) (Or.inl ⟨by rfl, ?ya3⟩) s0 ?ra3
  case ya3 =>
    intro z hz
    obtain ⟨-, -, z0, z1, z2, z3, z4, z5, z6⟩ := hz
    go_simp
    try with_reducible rfl
  refine wpAnyH_take (i := 4) (v := .pointer (some ⟨B, 2, none⟩)) rfl (by kernel_rfl) (by kernel_rfl) (by kernel_rfl) (fun _ _ _ h => h) (Or.inl ⟨by rfl, ?ya4⟩) s0 ?ra4
  case ya4 =>
    intro z hz
    obtain ⟨-, -, z0, z1, z2, z3, z4, z5, z6⟩ := hz
    go_simp
    try with_reducible rfl
  refine wpAnyH_take (i := 5) (v := .slice ao a ac) rfl (by kernel_rfl) (by kernel_rfl) (by kernel_rfl) (fun _ _ _ h => h) (Or.inl ⟨by rfl, ?ya5⟩) s0 ?ra5
  case ya5 =>
    intro z hz
    obtain ⟨-, -, z0, z1, z2, z3, z4, z5, z6⟩ := hz
    go_simp
    try with_reducible rfl
  refine wpAnyH_take (i := 7) (v := .pointer (some ⟨B, 3, none⟩)) rfl (by kernel_rfl) (by kernel_rfl) (by kernel_rfl) (fun _ _ _ h => h) (Or.inl ⟨by rfl, ?ya7⟩) s0 ?ra7
  case ya7 =>
    intro z hz
    obtain ⟨-, -, z0, z1, z2, z3, z4, z5, z6⟩ := hz
    go_simp
    try with_reducible rfl
  refine wpAnyH_take (i := 8) (v := .slice bo b bc) rfl (by kernel_rfl) (by kernel_rfl) (by kernel_rfl) (fun _ _ _ h => h) (Or.inl ⟨by rfl, ?ya8⟩) s0 ?ra8
  case ya8 =>
    intro z hz
    obtain ⟨-, -, z0, z1, z2, z3, z4, z5, z6⟩ := hz
    go_simp
    try with_reducible rfl
  refine wpAnyH_take (i := 10) (v := .pointer (some ⟨B, 4, none⟩)) rfl (by kernel_rfl) (by kernel_rfl) (by kernel_rfl) (fun _ _ _ h => h) (Or.inl ⟨by rfl, ?ya10⟩) s0 ?ra10
  case ya10 =>
    intro z hz
    obtain ⟨-, -, z0, z1, z2, z3, z4, z5, z6⟩ := hz
    go_simp
    try with_reducible rfl
  refine wpAnyH_take (i := 11) (v := .int .u64 sd) rfl (by kernel_rfl) (by kernel_rfl) (by kernel_rfl) (fun _ _ _ h => h) (Or.inl ⟨by rfl, ?ya11⟩) s0 ?ra11
  case ya11 =>
    intro z hz
    obtain ⟨-, -, z0, z1, z2, z3, z4, z5, z6⟩ := hz
    go_simp
    try with_reducible rfl
  refine wpAnyH_take (i := 12) (v := .pointer (some ⟨B, 5, none⟩)) rfl (by kernel_rfl) (by kernel_rfl) (by kernel_rfl) (fun _ _ _ h => h) (Or.inl ⟨by rfl, ?ya12⟩) s0 ?ra12
  case ya12 =>
    intro z hz
    obtain ⟨-, -, z0, z1, z2, z3, z4, z5, z6⟩ := hz
    go_simp
    try with_reducible rfl
  refine wpAnyH_take (i := 13) (v := .string gd) rfl (by kernel_rfl) (by kernel_rfl) (by kernel_rfl) (fun _ _ _ h => h) (Or.inl ⟨by rfl, ?ya13⟩) s0 ?ra13
  case ya13 =>
    intro z hz
    obtain ⟨-, -, z0, z1, z2, z3, z4, z5, z6⟩ := hz
    go_simp
    try with_reducible rfl
  refine wpAnyH_take (i := 14) (v := .pointer (some ⟨B, 6, none⟩)) rfl (by kernel_rfl) (by kernel_rfl) (by kernel_rfl) (fun _ _ _ h => h) (Or.inl ⟨by rfl, ?ya14⟩) s0 ?ra14
  case ya14 =>
    intro z hz
    obtain ⟨-, -, z0, z1, z2, z3, z4, z5, z6⟩ := hz
    go_simp
    try with_reducible rfl
  refine wpAnyH_take (i := 15) (v := .slice co c cc) rfl (by kernel_rfl) (by kernel_rfl) (by kernel_rfl) (fun _ _ _ h => h) (Or.inl ⟨by rfl, ?ya15⟩) s0 ?ra15
  case ya15 =>
    intro z hz
    obtain ⟨-, -, z0, z1, z2, z3, z4, z5, z6⟩ := hz
    go_simp
    try with_reducible rfl
  refine wpAnyH_ready (rs := [6]) (by kernel_rfl) (by simp) (AllReadyH.cons rfl (fun K hK => ?b6) AllReadyH.nil)
  case b6 =>
    go_simp
    refine (HCB.out _ s0.1).mono ?_
    rintro e w3 ⟨v3, rfl, o3, f3⟩
    have s3 := SN.out _ _ s0 f3
    refine hK.out _ _ s3 (fun hH3 => ?_)
    clear hK K
    refine wpAnyH_ready (rs := [9]) (by kernel_rfl) (by simp) (AllReadyH.cons rfl (fun K hK => ?_) AllReadyH.nil)
    go_simp
    refine (HCI.out _ s3.1).mono ?_
    rintro e w4 ⟨v4, rfl, o4, f4⟩
    have s4 := SN.out _ _ s3 f4
    refine hK.out _ _ s4 (fun hH4 => ?_)
    clear hK K
    obtain ⟨p3, q3, rfl, _⟩ := o3.sl
    obtain ⟨p4, q4, rfl, _⟩ := o4.sl
    refine wpAnyH_take (i := 16) (v := .agg #[.string wd, .int .i64 n, .slice p3 a q3, .slice p4 b q4, .int .u64 sd, .string gd, .slice co c cc]) rfl (by kernel_rfl) (by kernel_rfl) (by kernel_rfl) (fun _ _ _ h => h) (Or.inl ⟨by rfl, ?yb⟩) s4 ?rb
    case yb =>
      intro z hz
      go_simp
      try with_reducible rfl
    refine wpAnyH_ready (rs := [17]) (by kernel_rfl) (by simp) (AllReadyH.cons rfl (fun K hK => ?_) AllReadyH.nil)
    obtain ⟨old, hold, hosz⟩ := s4.2.1
    refine step_store_row rfl 35 (.tmp 2) (.tmp 19) rfl E #[.string wd, .int .i64 n, .slice p3 a q3, .slice p4 b q4, .int .u64 sd, .string gd, .slice co c cc] rfl rfl 35 _ hold sizeRl hosz (SROW.out _ _ _ _) ?_
    have hcg : Chg w4 (w4.setRow E #[.string wd, .int .i64 n, .slice p3 a q3, .slice p4 b q4, .int .u64 sd, .string gd, .slice co c cc]) (fun b => b = E) := Chg.of_setRow _ _ _
    have hnb : ∀ i v, w4.cell? ⟨B, i, none⟩ = some v → (w4.setRow E #[.string wd, .int .i64 n, .slice p3 a q3, .slice p4 b q4, .int .u64 sd, .string gd, .slice co c cc]).cell? ⟨B, i, none⟩ = some v := fun i v h => (World.cell?_of_block (hcg.block B (lt_of_cell h) HNE2.out)).trans h
    have hB : Below w.heap.size w (w4.setRow E #[.string wd, .int .i64 n, .slice p3 a q3, .slice p4 b q4, .int .u64 sd, .string gd, .slice co c cc]) := hcg.below s4.1 s4.1.size (fun x e => by rw [e]; exact HLE2.out)
    have hW : Blk (w4.setRow E #[.string wd, .int .i64 n, .slice p3 a q3, .slice p4 b q4, .int .u64 sd, .string gd, .slice co c cc]) E 35 #[.string wd, .int .i64 n, .slice p3 a q3, .slice p4 b q4, .int .u64 sd, .string gd, .slice co c cc] := hold.set _
    have s5 : Below w.heap.size w (w4.setRow E #[.string wd, .int .i64 n, .slice p3 a q3, .slice p4 b q4, .int .u64 sd, .string gd, .slice co c cc]) ∧ (∃ old, Blk (w4.setRow E #[.string wd, .int .i64 n, .slice p3 a q3, .slice p4 b q4, .int .u64 sd, .string gd, .slice co c cc]) E 35 old ∧ old.size = 7) ∧ (w4.setRow E #[.string wd, .int .i64 n, .slice p3 a q3, .slice p4 b q4, .int .u64 sd, .string gd, .slice co c cc]).cell? ⟨B, 0, none⟩ = some (.string wd) ∧ (w4.setRow E #[.string wd, .int .i64 n, .slice p3 a q3, .slice p4 b q4, .int .u64 sd, .string gd, .slice co c cc]).cell? ⟨B, 1, none⟩ = some (.int .i64 n) ∧ (w4.setRow E #[.string wd, .int .i64 n, .slice p3 a q3, .slice p4 b q4, .int .u64 sd, .string gd, .slice co c cc]).cell? ⟨B, 2, none⟩ = some (.slice ao a ac) ∧ (w4.setRow E #[.string wd, .int .i64 n, .slice p3 a q3, .slice p4 b q4, .int .u64 sd, .string gd, .slice co c cc]).cell? ⟨B, 3, none⟩ = some (.slice bo b bc) ∧ (w4.setRow E #[.string wd, .int .i64 n, .slice p3 a q3, .slice p4 b q4, .int .u64 sd, .string gd, .slice co c cc]).cell? ⟨B, 4, none⟩ = some (.int .u64 sd) ∧ (w4.setRow E #[.string wd, .int .i64 n, .slice p3 a q3, .slice p4 b q4, .int .u64 sd, .string gd, .slice co c cc]).cell? ⟨B, 5, none⟩ = some (.string gd) ∧ (w4.setRow E #[.string wd, .int .i64 n, .slice p3 a q3, .slice p4 b q4, .int .u64 sd, .string gd, .slice co c cc]).cell? ⟨B, 6, none⟩ = some (.slice co c cc) := ⟨hB, ⟨_, hW, rfl⟩, hnb _ _ s4.2.2.1, hnb _ _ s4.2.2.2.1, hnb _ _ s4.2.2.2.2.1, hnb _ _ s4.2.2.2.2.2.1, hnb _ _ s4.2.2.2.2.2.2.1, hnb _ _ s4.2.2.2.2.2.2.2.1, hnb _ _ s4.2.2.2.2.2.2.2.2⟩
    have r3 := ((o3.kept f4).chg hcg (fun k hk e => by rw [e] at hk; exact (o3.kept f4).ne_blk hold (by decide) hk)).rdaW
    have r4 := (o4.chg hcg (fun k hk e => by rw [e] at hk; exact o4.ne_blk hold (by decide) hk)).rdaW
    refine hK.out _ _ s5 (fun hH5 => ?_)
    clear hK K
    refine wpAnyH_done (by kernel_rfl) ?_ _
    clear hcg hnb s5 hH5
    generalize w4.setRow E #[.string wd, .int .i64 n, .slice p3 a q3, .slice p4 b q4, .int .u64 sd, .string gd, .slice co c cc] = w5 at *
    go_wp2
    refine bodyPost_ret (results_cell_row Tryd.results18 _ _ E 35 _ (0, 0) _ rfl hW Tryd.underlying35 rfl sizeRl) rfl ?_
    exact ⟨_, _, _, _, rfl, r3, r4, hB⟩
end Go.Proofs.YtemmghneohnigaaDoor
