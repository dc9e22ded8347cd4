import Derived.Test.YtppcgfdogacmkaaPL
namespace Go.Proofs.Ytppcgfdogacmkaa
open Go.RowKit
/-! Own, where a copy is made. -/
/-- the numbers with the piece of n from a on copied to b on -/
theorem size8 : (Try.prog.info? 116).map (·.size) = some 1 := by kernel_rfl
def copiedB (num : Nat → Int) (a b n : Nat) : Nat → Int := fun j => if b ≤ j ∧ j < b + n then num (j - b + a) else num j
theorem PoolAt.set_num {w w' : World} {g cb nb L W B S : Nat} {cnt : Nat → Nat} {num num' : Nat → Int} (h : PoolAt w g cb nb L W B S cnt num) (c : Chg w w' (fun b => b = nb)) (hr : w'.rowIs nb 116 (B * S * (L * 2 * W)) (fun i => .int .i8 (num' i))) : PoolAt w' g cb nb L W B S cnt num' :=
  ⟨c.row h.row h.gn, c.row h.cnts h.cn, hr, h.gc, h.gn, h.cn, h.hL, h.hW, h.hB, h.hS⟩
set_option maxRecDepth 20000 in
set_option maxHeartbeats 2000000 in
theorem own_copy {w : World} {g cb nb L W B S base t m n old c q bn T : Nat} {cnt : Nat → Nat} {num : Nat → Int} {v : Value} {bl : Nat → Nat} (h : OwnH w g cb nb L W B S base t m n old c cnt num v bl) (G : Geo L W B S q bn T) (hc : 2 ≤ c) (hf : 0 < freeN cnt B) :
    Calls Try.prog 27 #[.pointer (some ⟨t, 0, none⟩), .int .i64 n] w fun e w' => e = .returned (.int .i64 0) ∧ TblAt w' base t g S v m (updN bl (n / S) (lowF cnt B)) ∧ PoolAt w' g cb nb L W B S (updN (updN cnt (lowF cnt B) 1) old (c - 1)) (copiedB (zeroed num (lowF cnt B * bn) bn) (old * bn) (lowF cnt B * bn) bn) ∧ Chg w w' (fun b => b = t ∨ b = cb ∨ b = nb ∨ v.ownBlock = some b) := by
  have HR := hidd h.calls
  obtain ⟨o1, o2, o3⟩ := h.T.off h.P
  have hlo := lowF_lt hf
  have hlo0 := (lowF_spec cnt B).1 hlo
  have hne : old ≠ lowF cnt B := fun e => by rw [e] at h; have := h.hc; omega
  have hvb : v.ownBlock ≠ some cb ∧ v.ownBlock ≠ some nb ∧ v.ownBlock ≠ some t ∧ v.ownBlock ≠ some g := by
    have k := h.lt
    have k2 := h.T.lt
    refine ⟨fun e => ?_, fun e => ?_, fun e => ?_, fun e => ?_⟩ <;> have := (h.T.own.lt _ e).1 <;> omega
  have H := hidd h
  have HG := hidd G
  have hbB := h.hb
  have p1 := part_le hbB G.tot
  have p2 := part_le hlo G.tot
  have HT : Hid (∀ z : World, Below w.heap.size w z → Calls Try.prog 11 #[.pointer (some ⟨g, 0, none⟩)] z fun e w' => e = .returned (.tuple #[.int .i64 (lowF cnt B : Nat), .int .i64 0]) ∧ w'.cell? ⟨t, 2, none⟩ = some (.pointer (some ⟨g, 0, none⟩)) ∧ Hid (TblAt w' base t g S v m bl ∧ PoolAt w' g cb nb L W B S (updN cnt (lowF cnt B) 1) (zeroed num (lowF cnt B * bn) bn) ∧ Chg w w' (fun b => b = t ∨ b = cb ∨ b = nb ∨ v.ownBlock = some b))) := fun z f => by
    refine (take_low (H.out.P.fresh f) HG.out hf).mono ?_
    rintro e w' ⟨rfl, h1, h2⟩
    have hT := (H.out.T.fresh f).chg h2 (fun e => e.elim o2 o3) (fun b hb e => e.elim (fun e => hvb.1 (e ▸ hb)) (fun e => hvb.2.1 (e ▸ hb)))
    exact ⟨rfl, (row3 hT.row).2.2, hT, h1, Chg.pre f (h2.imp (fun _ _ e => e.elim (fun e => Or.inr (Or.inl e)) (fun e => Or.inr (Or.inr (Or.inl e)))))⟩
  have e0 : ((c : Int) == 0) = false := by simp; omega
  have e1 : ((c : Int) == 1) = false := by simp; omega
  have hm := h.hm
  have hn := h.hn
  have hp := h.hp
  have hS := h.P.hS
  have hc2 := h.hc2
  have hcc := h.hc
  have hn1 := G.n1
  clear h G hf hlo0
  generalize lowF cnt B = lo at *
  obtain ⟨oa, hoa⟩ : ∃ oa, oa = old * bn := ⟨_, rfl⟩
  obtain ⟨ob, hob⟩ : ∃ ob, ob = lo * bn := ⟨_, rfl⟩
  have HOA := hidd hoa
  have HOB := hidd hob
  rw [← hoa] at p1 ⊢
  rw [← hob] at p2 HT ⊢
  clear hoa hob
  go_enter Try.func27, Try.ntmps27
  go_upto_region 14 with (first
    | (go_at_call 47; with_reducible refine HR.out.mono ?_; rintro e w1 ⟨rfl, f1, HL'⟩; have HL := hidd HL'; clear HL')
    | (go_at_call 48; with_reducible refine HL.out.mono ?_; rintro e w2 ⟨rfl, f2, c2, HC'⟩; have HC := hidd HC'; clear HC')
    | (go_at_call 28; with_reducible refine HC.out.mono ?_; rintro e w3 ⟨rfl, h3⟩; rw [h3]; clear h3)
    | (go_at_call 11; with_reducible refine (HT.out _ f2).mono ?_; rintro e w3 ⟨rfl, c3, H3⟩))
  clear HR HT HL HC f1 f2 c2
  obtain ⟨hT3, hP3, hC3⟩ := H3.out
  clear H3
  have f0 : Below w3.heap.size w3 w3.drew := (Below.refl _ _).drew
  have HB1 : Hid (∀ z : World, Below w3.heap.size w3 z → Calls Try.prog 36 #[.pointer (some ⟨g, 0, none⟩), .int .i64 lo] z fun e w' => e = .returned (.slice (some ⟨nb, ob, none⟩) bn (T - ob)) ∧ Below w3.heap.size w3 w' ∧ w'.cell? ⟨t, 2, none⟩ = some (.pointer (some ⟨g, 0, none⟩))) := fun z f => by
    have := block_any (hP3.fresh f) HG.out hlo
    rw [← HOB.out] at this
    refine this.mono ?_
    rintro e w' ⟨rfl, k⟩
    exact ⟨rfl, fresh_trans f k, (row3 (hT3.fresh (fresh_trans f k)).row).2.2⟩
  have HB2 : Hid (∀ z : World, Below w3.heap.size w3 z → Calls Try.prog 36 #[.pointer (some ⟨g, 0, none⟩), .int .i64 old] z fun e w' => e = .returned (.slice (some ⟨nb, oa, none⟩) bn (T - oa)) ∧ Below w3.heap.size w3 w' ∧ w'.cell? ⟨t, 2, none⟩ = some (.pointer (some ⟨g, 0, none⟩))) := fun z f => by
    have := block_any (hP3.fresh f) HG.out hbB
    rw [← HOA.out] at this
    refine this.mono ?_
    rintro e w' ⟨rfl, k⟩
    exact ⟨rfl, fresh_trans f k, (row3 (hT3.fresh (fresh_trans f k)).row).2.2⟩
  have HROW : Hid (∀ z : World, Below w3.heap.size w3 z → z.rowIs nb 116 T (fun i => .int .i8 (zeroed num ob bn i))) := fun z f => by
    have := (hP3.fresh f).nums
    rw [← HG.out.eq, ← HG.out.eT] at this
    exact this
  have HKEEP : Hid (∀ z z' : World, Below w3.heap.size w3 z → Chg z z' (fun b => b = nb) → z'.cell? ⟨t, 2, none⟩ = some (.pointer (some ⟨g, 0, none⟩))) := fun z z' f k => (row3 ((hT3.fresh f).chg k o3 (fun b hb e => by subst e; exact hvb.2.1 hb)).row).2.2
  have H3 := hidd (And.intro hT3 (And.intro hP3 hC3))
  clear hT3 hP3 hC3
  go_region_held3 (fun w' => w'.cell? ⟨t, 2, none⟩ = some (.pointer (some ⟨g, 0, none⟩)))
    (first | (with_reducible exact c3) | (with_reducible exact k2) | (with_reducible exact y2) | (with_reducible exact HKEEP.out _ _ f8 hc8) | go_keep)
    (first
      | (go_at_call 36; with_reducible refine (HB1.out _ f0).mono ?_; rintro e w6 ⟨rfl, fa, k2⟩)
      | (go_at_call 36; with_reducible refine (HB2.out _ f0).mono ?_; rintro e w7 ⟨rfl, fb, k2⟩)
      | (go_at_call 36; with_reducible refine (HB2.out _ fa).mono ?_; rintro e w8 ⟨rfl, f8, y2⟩)
      | (go_at_call 36; with_reducible refine (HB1.out _ fb).mono ?_; rintro e w8 ⟨rfl, f8, y2⟩)
      | (refine step_copyR (by rfl) _ _ 32 32 (by rfl) 116 Try.underlying32 size8 nb ob bn (T - ob) nb oa bn (T - oa) bn (by rfl) (by rfl) (by simp) 116 T _ (HROW.out _ f8) p2 (fun j => .int .i8 (zeroed num ob bn (oa + j))) (fun j hj => (HROW.out _ f8).cell (by omega)) (fun _ _ => rfl) ?_; intro w9 hr9 hc8))
  all_goals
    obtain ⟨hT3, hP3, hC3⟩ := H3.out
    clear H3 HB1 HB2 HROW HKEEP
    have hP9 : PoolAt w9 g cb nb L W B S (updN cnt lo 1) (copiedB (zeroed num ob bn) oa ob bn) := (hP3.fresh f8).set_num hc8 (by
      rw [← HG.out.eq, ← HG.out.eT]
      exact hr9.congr (fun j _ => by
        unfold copiedB
        by_cases e : ob ≤ j ∧ j < ob + bn
        · rw [if_pos e, if_pos e, Nat.add_comm]
        · rw [if_neg e, if_neg e]))
    have hT9 := (hT3.fresh f8).chg hc8 o3 (fun b hb e => by subst e; exact hvb.2.1 hb)
    have hC9 : Chg w w9 (fun b => b = t ∨ b = cb ∨ b = nb ∨ v.ownBlock = some b) := (hC3.post f8).trans hc8 (fun _ _ e => Or.inr (Or.inr (Or.inl e)))
    have hLS := lset_any (x := lo) hT9 hS (by omega) hp
    have HLS : Hid (Calls Try.prog 54 #[.pointer (some ⟨t, 0, none⟩), .int .i64 n, .int .i64 lo] w9 fun e w' => e = .returned (.tuple #[]) ∧ w'.cell? ⟨t, 2, none⟩ = some (.pointer (some ⟨g, 0, none⟩)) ∧ Hid (TblAt w' base t g S v m (updN bl (n / S) lo) ∧ PoolAt w' g cb nb L W B S (updN cnt lo 1) (copiedB (zeroed num ob bn) oa ob bn) ∧ Chg w w' (fun b => b = t ∨ b = cb ∨ b = nb ∨ v.ownBlock = some b))) := by
      refine hLS.mono ?_
      rintro e w' ⟨rfl, k1, k2⟩
      exact ⟨rfl, (row3 k1.row).2.2, k1, hP9.chg k2 hvb.2.2.2 hvb.1 hvb.2.1, hC9.trans k2 (fun _ _ e => Or.inr (Or.inr (Or.inr e)))⟩
    have HD : Hid (∀ z, Hid (TblAt z base t g S v m (updN bl (n / S) lo) ∧ PoolAt z g cb nb L W B S (updN cnt lo 1) (copiedB (zeroed num ob bn) oa ob bn) ∧ Chg w z (fun b => b = t ∨ b = cb ∨ b = nb ∨ v.ownBlock = some b)) → Calls Try.prog 49 #[.pointer (some ⟨g, 0, none⟩), .int .i64 old] z fun e w' => e = .returned (.int .i64 0) ∧ Hid (TblAt w' base t g S v m (updN bl (n / S) lo) ∧ PoolAt w' g cb nb L W B S (updN (updN cnt lo 1) old (c - 1)) (copiedB (zeroed num ob bn) oa ob bn) ∧ Chg w w' (fun b => b = t ∨ b = cb ∨ b = nb ∨ v.ownBlock = some b))) := fun z ⟨k1, k2, k3⟩ => by
      have ec : updN cnt lo 1 old = c := by rw [updN_ne _ _ hne]; exact hcc
      have hd := drop_ok k2 hbB (by rw [ec]; omega) (by rw [ec]; exact hc2)
      rw [ec] at hd
      refine hd.mono ?_
      rintro e w' ⟨rfl, q1, q2⟩
      exact ⟨rfl, k1.chg q2 o2 (fun b hb e => by subst e; exact hvb.1 hb), q1, k3.trans q2 (fun _ _ e => Or.inr (Or.inl e))⟩
    clear hT3 hP3 hC3 hP9 hT9 hC9 hLS hr9 hc8
    go_wp2_with (first
      | (go_at_call 54; with_reducible refine HLS.out.mono ?_; rintro e w11 ⟨rfl, c11, H11⟩)
      | (go_at_call 49; with_reducible refine (HD.out _ H11).mono ?_; rintro e w12 ⟨rfl, H12⟩))
    go_ret
    exact ⟨rfl, H12.out.1, H12.out.2.1, H12.out.2.2⟩
end Go.Proofs.Ytppcgfdogacmkaa
