import Derived.Test.YtppcgfdogacmkaaRC
import Derived.Test.YtppcgfdogacmkaaLPLk
import Derived.Deep.RegionWith
namespace Go.Proofs.Ytppcgfdogacmkaa
open Go.RowKit
/-! PoolOwns: the walk. -/
theorem Own.offT {w : World} {b1 b2 s1 s2 n1 n2 : Nat} {e1 e2 : TypeId} {v u : Value} {c1 c2 : Nat → Value} (h : Own w b1 e1 s1 v n1 c1) (k : Own w b2 e2 s2 u n2 c2) (hne : e1 ≠ e2) : Off v u := fun x hx hy => by
  rcases h.2 with ⟨rfl, rfl⟩ | ⟨g, cap, cur, rfl, _, hg, _⟩
  · simp [Value.ownBlock] at hx
  · rcases k.2 with ⟨rfl, rfl⟩ | ⟨g', cap', cur', rfl, _, hg', _⟩
    · simp [Value.ownBlock] at hy
    · obtain rfl : g = x := by simpa [Value.ownBlock] using hx
      obtain rfl : g' = g := by simpa [Value.ownBlock] using hy
      rw [hg] at hg'
      cases hg'
      exact hne rfl
theorem needs_room {LG S B : Nat} (hS : 0 < S) (_h1 : 1 ≤ LG) (h : LG ≤ B * S) : needs LG S ≤ B ∧ ∀ i, i < LG → i / S < needs LG S := by
  have hd := Nat.div_add_mod LG S
  have hm := Nat.mod_lt LG hS
  unfold needs
  by_cases e : LG % S = 0
  · rw [if_pos e, Nat.add_zero]
    refine ⟨Nat.div_le_of_le_mul (by rw [Nat.mul_comm]; exact h), fun i hi => ?_⟩
    rw [Nat.div_lt_iff_lt_mul hS, Nat.mul_comm]
    omega
  · rw [if_neg e]
    refine ⟨?_, fun i hi => ?_⟩
    · have h2 : LG / S < B := by
        rw [Nat.div_lt_iff_lt_mul hS]
        rcases Nat.lt_or_eq_of_le h with k | k
        · exact k
        · rw [k, Nat.mul_mod_left] at e; exact absurd rfl e
      omega
    · have := Nat.div_le_div_right (c := S) (Nat.le_of_lt hi)
      omega
/-- all that the law keeps -/
structure Wn (x : Fx) (w : World) (s : Dy) (N LG : Nat) (V1 V2 : Nat → Int) : Prop where
  st : St x w s
  tn : x.tn = 2
  ow : OwI x.B x.S N LG s V1 V2
theorem Wn.fresh {x : Fx} {w w' : World} {s : Dy} {N LG : Nat} {V1 V2 : Nat → Int} (h : Wn x w s N LG V1 V2) (f : Below w.heap.size w w') : Wn x w' s N LG V1 V2 := ⟨h.st.fresh f, h.tn, h.ow⟩
theorem St.app {x : Fx} {w w' : World} {s : Dy} (h : St x w s) {v v' : Value} {n : Nat} {cs : Nat → Value} (ho : Own w x.base 34 4 v n cs) (ha : App w w' v v') : St x w' s :=
  h.chg (Chg.of_app ha) (fun b e => ⟨(ho.lt b e).1, fun i hi e2 => (h.T i hi).own.offT ho (by decide) b e2 e⟩)
theorem NoteAt.app {w w' : World} {b : Nat → Nat} {nv : Nat → Int} {base n : Nat} {v v' : Value} {cs : Nat → Value} (h : NoteAt w b nv) (ho : Own w base 34 4 v n cs) (ha : App w w' v v') : NoteAt w' b nv :=
  h.chg (Chg.of_app ha) (fun k hk => ho.apart (h.row k hk) (by decide))
/-- two lists of notes grow by one note -/
theorem pair_push {x : Fx} {w w2 w4 : World} {s : Dy} {i : Nat} {v u v' u' : Value} {V1 V2 nv : Nat → Int} {bk1 bk2 b : Nat → Nat} (st : St x w s) (hN : NoteAt w b nv) (hb : ∀ k, k < 4 → b k ≠ x.nb) (h1 : No w x.base x.nb v i V1 bk1) (h2 : No w x.base x.nb u i V2 bk2) (hoff : Off v u) (o1 o2 : Obj)
    (ho1 : Own w2 x.base 34 4 v' (i + 1) (nt (pushB bk1 i b))) (ha1 : App (w.alloc o1) w2 v v') (ho2 : Own w4 x.base 34 4 u' (i + 1) (nt (pushB bk2 i b))) (ha2 : App (w2.alloc o2) w4 u u') :
    St x w4 s ∧ No w4 x.base x.nb v' (i + 1) (setS V1 (i * 12) nv) (pushB bk1 i b) ∧ No w4 x.base x.nb u' (i + 1) (setS V2 (i * 12) nv) (pushB bk2 i b) ∧ Off v' u' := by
  have f1 := fresh_alloc w o1
  have f2 := fresh_alloc w2 o2
  have a1 := h1.fresh f1
  have a2 := h2.fresh f1
  have s2 := (st.fresh f1).app a1.own ha1
  have n2 := (hN.fresh f1).app a1.own ha1
  have v2 := a1.push (hN.fresh f1) hb ho1 ha1
  have u2 := a2.other a1.own ha1 hoff
  have off2 := ha1.off a2.own hoff
  have v3 := v2.fresh f2
  have u3 := u2.fresh f2
  refine ⟨(s2.fresh f2).app u3.own ha2, v3.other u3.own ha2 off2.symm, u3.push (n2.fresh f2) hb ho2 ha2, (ha2.off v3.own off2.symm).symm⟩
/-- the two lists of notes, written into -/
structure Wo (x : Fx) (w : World) (s : Dy) (N LG gN1 cN1 gN2 cN2 : Nat) (V1 V2 : Nat → Int) (bk1 bk2 : Nat → Nat) : Prop where
  st : St x w s
  tn : x.tn = 2
  ow : OwI x.B x.S N LG s V1 V2
  n1 : Nr w x.nb gN1 cN1 LG V1 bk1
  n2 : Nr w x.nb gN2 cN2 LG V2 bk2
theorem Wo.fresh {x : Fx} {w w' : World} {s : Dy} {N LG gN1 cN1 gN2 cN2 : Nat} {V1 V2 : Nat → Int} {bk1 bk2 : Nat → Nat} (h : Wo x w s N LG gN1 cN1 gN2 cN2 V1 V2 bk1 bk2) (f : Below w.heap.size w w') : Wo x w' s N LG gN1 cN1 gN2 cN2 V1 V2 bk1 bk2 := ⟨h.st.fresh f, h.tn, h.ow, h.n1.fresh f, h.n2.fresh f⟩
/-- a slot of the second table filled, and noted -/
theorem Wo.fill {x : Fx} {w w1 w2 : World} {s : Dy} {N LG gN1 cN1 gN2 cN2 pos : Nat} {V1 V2 nv : Nat → Int} {bk1 bk2 b : Nat → Nat} (h : Wo x w s N LG gN1 cN1 gN2 cN2 V1 V2 bk1 bk2) (hS : 0 < x.S) (hLG : ∀ i, i < LG → i / x.S < N) (hp : pos < LG) (hn : ∀ i, i < N → s.bl 0 i ≠ s.bl 1 (pos / x.S)) (hN : NoteAt w1 b nv) (hb : ∀ k, k < 4 → b k ≠ x.nb) (hP : PoolAt w1 x.g x.cb x.nb 2 3 x.B x.S s.cnt (setS s.num (slo (s.bl 1) x.S pos * 12) nv)) (c : Chg w w1 (fun b => b = x.nb)) (f : Below w1.heap.size w1 w2) (hg : x.base ≤ gN2) (hne : gN1 ≠ gN2) :
    Wo x (put4 w2 gN2 pos b) { s with num := setS s.num (slo (s.bl 1) x.S pos * 12) nv } N LG gN1 cN1 gN2 cN2 V1 (setS V2 (pos * 12) nv) bk1 (setB bk2 pos b) := by
  have st1 := h.st.pool hP (c.imp (fun _ _ e => Or.inr e))
  have st2 := st1.fresh f
  have a1 := (h.n1.chgP h.st.P.nums c).fresh f
  have a2 := (h.n2.chgP h.st.P.nums c).fresh f
  obtain ⟨F, hr, _⟩ := a2.N
  refine ⟨st2.chg (put4_chg w2 gN2 pos b) (fun y e => by subst e; exact ⟨hg, fun i hi => (st2.T i hi).own.apart hr (by decide)⟩), h.tn, h.ow.fill hS hLG hp hn, a1.apart hr hne, a2.put (hN.fresh f) hb⟩
set_option maxRecDepth 20000 in
theorem Wo.tells {x : Fx} {w : World} {s : Dy} {N LG gN cN n : Nat} {V : Nat → Int} {bk : Nat → Nat} (hst : St x w s) (hn : Nr w x.nb gN cN LG V bk) {i y : Nat} (hi : i < LG) (hy : y < x.B * x.S) (hc : s.cnt (y / x.S) ≠ 0) (he : ∀ j, j < 12 → V (i * 12 + j) = s.num (y * 12 + j)) (_hN : N = n) : Calls Try.prog 15 #[.pointer (some ⟨x.g, 0, none⟩), .int .i64 y, .agg #[.slice (some ⟨bk (4 * i + 0), 0, none⟩) 3 3, .slice (some ⟨bk (4 * i + 1), 0, none⟩) 3 3, .slice (some ⟨bk (4 * i + 2), 0, none⟩) 3 3, .slice (some ⟨bk (4 * i + 3), 0, none⟩) 3 3]] w fun e w' => e = .returned (.bool true) ∧ Below w.heap.size w w' := by
  have k := tells_ok hst.P hst.geo hy hc (hn.note hi) he
  unfold noteV at k
  exact k
theorem slo_lt {bl : Nat → Nat} {S B i : Nat} (hS : 0 < S) (hb : bl (i / S) < B) : slo bl S i < B * S ∧ slo bl S i / S = bl (i / S) := by
  have hm := Nat.mod_lt i hS
  refine ⟨?_, slot_quo hm⟩
  unfold slo
  have := Nat.mul_le_mul_right S (show bl (i / S) + 1 ≤ B from hb)
  rw [Nat.succ_mul] at this
  omega
set_option maxRecDepth 100000 in
set_option maxHeartbeats 40000000 in
theorem owns_law {w : World} {bo : Option Addr} {m cap : Nat} {f : Nat → Int} (a0 a1 a2 : Int) (hr : RdA w bo 1 m cap (fun i => .int .i64 (f i))) :
    Calls Try.prog 7 #[.int .i64 a0, .int .i64 a1, .int .i64 a2, .slice bo m cap] w fun e w' => e = .returned (.bool true) ∧ Below w.heap.size w w' := by
  have hcap : cap ≤ 9223372036854775807 := by have := hr.top; unfold maxLen at this; omega
  have hnc := hr.le
  by_cases hlong : 2147483647 < m
  · have HL := hidd (long_yes w hlong (by omega))
    go_enter Try.func7, Try.ntmps7
    go_wp2_with (go_at_call 9; with_reducible refine HL.out.mono ?_; rintro e w9 ⟨rfl, h9⟩; rw [h9]; clear h9)
    go_ret
    exact ⟨rfl, Below.refl _ _⟩
  · have HL := hidd (long_no (n := m) w (by omega))
    have HM : Hid (Calls Try.prog 10 #[.int .i64 a0, .int .i64 a1, .int .i64 2] w fun e w' => ∃ x : Fx, e = .returned (.tuple #[.pointer (some ⟨x.g, 0, none⟩), .slice (some ⟨x.lb, 0, none⟩) 2 x.lc, .int .i64 x.B, .int .i64 x.S]) ∧ x.w0 = w ∧ x.tn = 2 ∧ (2 ≤ x.B ∧ x.B ≤ 17) ∧ (1 ≤ x.S ∧ x.S ≤ 6) ∧ St x w' Dy.zero) := made_st w a0 a1 2 (by decide) (by decide)
    go_enter Try.func7, Try.ntmps7
    go_upto_region 4 with (first
      | (go_at_call 9; with_reducible refine HL.out.mono ?_; rintro e w9 ⟨rfl, h9⟩; rw [h9]; clear h9)
      | (go_at_call 10; with_reducible refine HM.out.mono ?_; rintro e w1 ⟨x, rfl, rfl, ht, hB, hS, hst⟩))
    clear HM HL
    have HRD := hidd hr
    clear hr
    obtain ⟨hB1, hB2⟩ := hB
    obtain ⟨hS1, hS2⟩ := hS
    have c0 := hst.cell (i := 0) (by omega)
    have c1 := hst.cell (i := 1) (by omega)
    have hlc : 2 ≤ x.lc := by have := hst.ln; omega
    obtain ⟨R, hR⟩ : ∃ R, R = x.B * x.S := ⟨_, rfl⟩
    have hRb : 1 ≤ R ∧ R ≤ 102 := by
      rw [hR]
      have h1 := Nat.mul_le_mul hB1 hS1
      have h2 := Nat.mul_le_mul hB2 hS2
      omega
    obtain ⟨hR1, hR2⟩ := hRb
    have eR : (x.B : Int) * (x.S : Int) = (R : Int) := by rw [hR]; push_cast; rfl
    have hmd := md_lt a2 (show 0 < R by omega)
    have HMD := hidd (mod_any a2 R w1 (by omega) (by omega))
    generalize md a2 R = l0 at *
    obtain ⟨LG, hLG⟩ : ∃ LG, LG = 1 + l0 := ⟨_, rfl⟩
    have eL : (1 : Int) + (l0 : Int) = (LG : Int) := by omega
    have hLG1 : 1 ≤ LG := by omega
    have hLG2 : LG ≤ R := by omega
    obtain ⟨hN1, hN2⟩ := needs_room (B := x.B) (S := x.S) (by omega) hLG1 (by rw [← hR]; exact hLG2)
    obtain ⟨N, hN⟩ : ∃ N, N = needs LG x.S := ⟨_, rfl⟩
    rw [← hN] at hN1 hN2
    have HPN := hidd hN2
    have HGR : Hid (Calls Try.prog 17 #[.pointer (some ⟨x.tb 0, 0, none⟩), .int .i64 LG] w1 fun e w' => e = .returned (.int .i64 0) ∧ w'.cell? ⟨x.lb, 0, none⟩ = some (.pointer (some ⟨x.tb 0, 0, none⟩)) ∧ w'.cell? ⟨x.lb, 1, none⟩ = some (.pointer (some ⟨x.tb 1, 0, none⟩)) ∧ Hid (∃ s', St x w' s' ∧ GrI x s' N)) := by
      have hz : freeN Dy.zero.cnt x.B = x.B := freeN_zero x.B
      have hm0 : Dy.zero.m 0 = 0 := rfl
      refine (hst.grow (i := 0) (n := LG) (by omega) (by decide) (by omega) (by rw [← hN, hz, hm0]; omega)).mono ?_
      rintro e w' ⟨rfl, v, k⟩
      rw [← hN] at k
      exact ⟨rfl, k.cell (by omega), k.cell (by omega), _, k, grI hN1⟩
    have HR := hidd hR
    clear hR hst hLG hN hN2 hmd
    go_upto_region 8 with (first
      | (go_at_call 13; with_reducible refine HMD.out.mono ?_; rintro e w9 ⟨rfl, h9⟩; rw [h9]; clear h9)
      | (go_at_call 17; with_reducible refine HGR.out.mono ?_; rintro e w2 ⟨rfl, c20, c21, H2⟩))
    clear HMD HGR c0 c1
    obtain ⟨s2, hst2, g2⟩ := H2.out
    clear H2
    have f0 : Below w2.heap.size w2 w2.drew := (Below.refl _ _).drew
    have HBL : Hid (Calls Try.prog 18 #[.pointer (some ⟨x.tb 0, 0, none⟩)] w2.drew fun e w' => ∃ ao cap, e = .returned (.slice ao N cap) ∧ w'.cell? ⟨x.lb, 0, none⟩ = some (.pointer (some ⟨x.tb 0, 0, none⟩)) ∧ w'.cell? ⟨x.lb, 1, none⟩ = some (.pointer (some ⟨x.tb 1, 0, none⟩)) ∧ Hid (Own w' w2.drew.heap.size 3 1 (.slice ao N cap) N (fun q => .int .i64 (s2.bl 0 q)) ∧ St x w' s2)) := by
      have k := (hst2.fresh f0).blocks (i := 0) (by omega) (by rw [g2.m0]; omega)
      rw [g2.m0] at k
      refine k.mono ?_
      rintro e w' ⟨ao, c, rfl, q1, _, q3⟩
      exact ⟨ao, c, rfl, q3.cell (by omega), q3.cell (by omega), q1, q3⟩
    have HSH : Hid (∀ (w' : World) (ao : Option Addr) (c : Nat), Hid (Own w' w2.drew.heap.size 3 1 (.slice ao N c) N (fun q => .int .i64 (s2.bl 0 q)) ∧ St x w' s2) → Calls Try.prog 26 #[.pointer (some ⟨x.tb 1, 0, none⟩), .slice ao N c] w' fun e w'' => e = .returned (.int .i64 0) ∧ w''.cell? ⟨x.lb, 0, none⟩ = some (.pointer (some ⟨x.tb 0, 0, none⟩)) ∧ w''.cell? ⟨x.lb, 1, none⟩ = some (.pointer (some ⟨x.tb 1, 0, none⟩)) ∧ Hid (∃ s', St x w'' s' ∧ OwI x.B x.S N 0 s' (fun _ => 0) (fun _ => 0) ∧ (∀ j, j < N → s'.bl 1 j = s'.bl 0 j))) := fun w' ao c ⟨q1, q2⟩ => by
      refine (q2.share1 ht g2 hN1 q1 hst2.bs (fun k hk => ((hst2.T 1 (by omega)).own.lt k hk).2)).mono ?_
      rintro e w'' ⟨rfl, s', p1, p2, p3⟩
      exact ⟨rfl, p1.cell (by omega), p1.cell (by omega), s', p1, p2, p3⟩
    clear hst2 g2
    go_region_held3 (fun w' => w'.cell? ⟨x.lb, 0, none⟩ = some (.pointer (some ⟨x.tb 0, 0, none⟩)) ∧ w'.cell? ⟨x.lb, 1, none⟩ = some (.pointer (some ⟨x.tb 1, 0, none⟩)))
      (first | (with_reducible exact ⟨c20, c21⟩) | (with_reducible exact ⟨c40, c41⟩) | (with_reducible exact ⟨c30, c31⟩) | go_keep)
      (first
        | (go_at_call 18; with_reducible refine HBL.out.mono ?_; rintro e w3 ⟨ao, ac, rfl, c30, c31, H3⟩)
        | (go_at_call 26; with_reducible refine (HSH.out _ _ _ H3).mono ?_; rintro e w4 ⟨rfl, c40, c41, H4⟩))
    all_goals
      clear HBL HSH
      obtain ⟨s4, hst4, hI4, hsm4⟩ := H4.out
      clear H4 H3
      have hw4 := hst4.bs
      have HW4 := hidd (Wn.mk hst4 ht hI4)
      have HSM4 := hidd hsm4
      clear hst4 hI4 hsm4
      go_wp2
      go_loopw [16, 17, 18] (fun v u i wx => ∃ (q : Nat) (s : Dy) (V1 V2 : Nat → Int) (bk1 bk2 : Nat → Nat), q ≤ LG ∧ i = .int .i64 q ∧ Wn x wx s N q V1 V2 ∧ Hid (∀ j, j < N → s.bl 1 j = s.bl 0 j) ∧ No wx x.base x.nb v q V1 bk1 ∧ No wx x.base x.nb u q V2 bk2 ∧ Off v u) (fun _ _ i _ => LG - (intOf i).toNat)
      case atStart => exact ⟨0, s4, _, _, fun _ => 0, fun _ => 0, by omega, rfl, HW4.out, HSM4.out, ⟨own_nil _ _ _ _ _, fun c hc => absurd hc (by omega), fun c hc => absurd hc (by omega)⟩, ⟨own_nil _ _ _ _ _, fun c hc => absurd hc (by omega), fun c hc => absurd hc (by omega)⟩, off_nil _⟩
      case round =>
        clear HW4 HSM4 c20 c21 c40 c41 hw4
        obtain ⟨q, s, V1, V2, bk1, bk2, hq, rfl, hW, HSM, h1, h2, hoff⟩ := hrel
        have d0 := hW.st.cell (i := 0) (by omega)
        have d1 := hW.st.cell (i := 1) (by omega)
        by_cases hlt : q < LG
        · have hqN := HPN.out q hlt
          have hb0 := hW.ow.lt0 _ hqN
          have hm0 := hW.ow.m0
          have hm1 := hW.ow.m1
          obtain ⟨y, hy⟩ : ∃ y, y = slo (s.bl 0) x.S q := ⟨_, rfl⟩
          have hmodq := Nat.mod_lt q (show 0 < x.S by omega)
          have hyq : y / x.S = s.bl 0 (q / x.S) := by rw [hy]; exact slot_quo hmodq
          have hyR : y < x.B * x.S := by
            rw [hy]; unfold slo
            have := Nat.mul_le_mul_right x.S (show s.bl 0 (q / x.S) + 1 ≤ x.B from hb0)
            rw [Nat.succ_mul] at this
            omega
          have hyc : s.cnt (y / x.S) ≠ 0 := by
            rw [hyq]
            have := hW.ow.cnt _ hb0
            have := tms_one hW.ow.ne0 hqN
            omega
          have HS0 : Hid (Calls Try.prog 20 #[.pointer (some ⟨x.tb 0, 0, none⟩), .int .i64 q] wr fun e w' => e = .returned (.tuple #[.int .i64 (y : Nat), .int .i64 0]) ∧ Below wr.heap.size wr w') := by
            rw [hy]; exact hW.st.slot (i := 0) (by omega) (by omega) (by omega) (by omega) hb0
          obtain ⟨vo, vc, hve, _⟩ := h1.own.rd
          obtain ⟨uo, uc, hue, _⟩ := h2.own.rd
          subst hve
          subst hue
          have HFL : Hid (∀ z, Below wr.heap.size wr z → ∀ xx, Calls Try.prog 12 #[.pointer (some ⟨x.g, 0, none⟩), .int .i64 y, .int .i64 xx] z fun e w' => ∃ b nv, e = .returned (.tuple #[.agg #[.slice (some ⟨b 0, 0, none⟩) 3 3, .slice (some ⟨b 1, 0, none⟩) 3 3, .slice (some ⟨b 2, 0, none⟩) 3 3, .slice (some ⟨b 3, 0, none⟩) 3 3], .bool true]) ∧ w'.cell? ⟨x.lb, 1, none⟩ = some (.pointer (some ⟨x.tb 1, 0, none⟩)) ∧ Hid (NoteAt w' b nv ∧ (∀ k, k < 4 → b k ≠ x.nb) ∧ St x w' { s with num := setS s.num (y * 12) nv } ∧ No w' x.base x.nb (.slice vo q vc) q V1 bk1 ∧ No w' x.base x.nb (.slice uo q uc) q V2 bk2)) := fun z f xx => by
            have hz := hW.st.fresh f
            refine (fill_ok hz.P hz.geo hyR hyc xx).mono ?_
            rintro e w' ⟨b, nv, rfl, q1, q2, q3, q4⟩
            have hs' := hz.pool q3 (q4.imp (fun _ _ e => Or.inr e))
            have hnl := hz.P.nums.lt
            exact ⟨b, nv, rfl, hs'.cell (by omega), q1, fun k hk e => by have := q2 k hk; omega, hs', (h1.fresh f).chg hz.P.nums q4, (h2.fresh f).chg hz.P.nums q4⟩
          have HS1 : Hid (∀ (z : World) (nv : Nat → Int), St x z { s with num := setS s.num (y * 12) nv } → Calls Try.prog 20 #[.pointer (some ⟨x.tb 1, 0, none⟩), .int .i64 q] z fun e w' => e = .returned (.tuple #[.int .i64 (y : Nat), .int .i64 0]) ∧ Below z.heap.size z w') := fun z nv hz => by
            have k := hz.slot (i := 1) (n := q) (by omega) (by show s.m 1 ≤ _; omega) (by omega) (by show _ < s.m 1; omega) (hW.ow.lt1 _ hqN)
            have e : slo (s.bl 1) x.S q = y := by rw [hy]; unfold slo; rw [HSM.out _ hqN]
            rw [show ({ s with num := setS s.num (y * 12) nv } : Dy).bl 1 = s.bl 1 from rfl, e] at k
            exact k
          have HOW : Hid (∀ nv, OwI x.B x.S N (q + 1) { s with num := setS s.num (y * 12) nv } (setS V1 (q * 12) nv) (setS V2 (q * 12) nv)) := fun nv => by
            rw [hy]; exact hW.ow.extend (by omega) (fun i hi => HPN.out i (by omega)) HSM.out
          have HOFF := hidd hoff
          have hbsW := hW.st.bs
          have hy2 : y ≤ 102 := by have := HR.out; omega
          clear hW h1 h2 hoff hy hyq hyR hyc
          go_upto_region 17 with (first
            | (go_at_call 20; with_reducible refine HS0.out.mono ?_; rintro e w5 ⟨rfl, f5⟩)
            | (go_at_call 12; with_reducible refine (HFL.out _ f5 _).mono ?_; rintro e w6 ⟨b, nv, rfl, c61, H6⟩))
          clear HS0 HFL f5
          have fN := fresh_alloc w6 (.cells #[.slice (some ⟨b 0, 0, none⟩) 3 3, .slice (some ⟨b 1, 0, none⟩) 3 3, .slice (some ⟨b 2, 0, none⟩) 3 3, .slice (some ⟨b 3, 0, none⟩) 3 3] 34)
          have rN := row4_new w6 34 (.slice (some ⟨b 0, 0, none⟩) 3 3) (.slice (some ⟨b 1, 0, none⟩) 3 3) (.slice (some ⟨b 2, 0, none⟩) 3 3) (.slice (some ⟨b 3, 0, none⟩) 3 3)
          have c71 := fresh_cell fN c61
          have hgv1 : ∀ k, (Value.slice vo q vc).ownBlock = some k → k < w6.heap.size := fun k hk => (H6.out.2.2.2.1.own.lt k hk).2
          have HGV := hidd hgv1
          generalize hw7 : w6.alloc (.cells #[.slice (some ⟨b 0, 0, none⟩) 3 3, .slice (some ⟨b 1, 0, none⟩) 3 3, .slice (some ⟨b 2, 0, none⟩) 3 3, .slice (some ⟨b 3, 0, none⟩) 3 3] 34) = w7 at *
          clear hw7 hgv1
          have HSL := hidd (HS1.out w7 nv (H6.out.2.2.1.fresh fN))
          go_upto_region 20 with (go_at_call 20; with_reducible refine HSL.out.mono ?_; rintro e w8 ⟨rfl, f8⟩)
          clear HSL HS1 c61 c71 d0 d1
          have f68 := fresh_trans fN f8
          have rN8 := rN.of_block (f8.block _ rN.lt)
          obtain ⟨y0, y1, y2, y3⟩ := row4 rN8
          have RN8 := hidd rN8
          obtain ⟨n6, m6, st6, no1, no2⟩ := H6.out
          have ST8 := hidd (st6.fresh f68)
          have N8 := hidd (n6.fresh f68)
          have NO1 := hidd (no1.fresh f68)
          have NO2 := hidd (no2.fresh f68)
          have M6 := hidd m6
          have hbs8 := (st6.fresh f68).bs
          have HV8 : Hid (Own w8 x.base 34 4 (.slice vo q vc) q (nt (pushB bk1 q b))) := NO1.out.own.congr (fun j hj => by unfold nt; rw [pushB_lt (by omega)])
          have HU8 : Hid (Own w8 x.base 34 4 (.slice uo q uc) q (nt (pushB bk2 q b))) := NO2.out.own.congr (fun j hj => by unfold nt; rw [pushB_lt (by omega)])
          clear H6 n6 m6 st6 no1 no2 rN rN8 fN f8 f68
          generalize hgv : w6.heap.size = gv at *
          clear hgv
          go_wp2_with (first
            | (at_builtin; refine wpList_app _ rfl _ _ 28 rfl x.base 34 (.agg #[.slice none 0 0, .slice none 0 0, .slice none 0 0, .slice none 0 0]) 4 96 Try.underlying28 infoNote rfl (by decide) _ q (nt (pushB bk1 q b)) rfl (HV8.out.kept (fresh_alloc _ _)) _ 1 1 rfl (note_cells _ _) (fun _ _ => rfl) (by decide) (by unfold maxLen; omega) (by omega) (by simp; omega) ?_; intro v' w9 hown' happ; have HO1 := hidd hown'; have HA1 := hidd happ; have HU9 := hidd (happ.own (HU8.out.kept (fresh_alloc _ _)) HOFF.out); have rN9 := (Chg.pre (fresh_alloc w8 _) (Chg.of_app happ)).row RN8.out (fun e => by have := HGV.out gv e; omega); obtain ⟨z0, z1, z2, z3⟩ := row4 rN9; have hbs9 : x.base ≤ w9.heap.size := Nat.le_trans hbs8 (Nat.le_trans (fresh_alloc w8 _).size happ.grown.size); obtain ⟨v3, v4, rfl, _⟩ := hown'.rd; clear hown' happ HV8 rN9 y0 y1 y2 y3)
            | (at_builtin; refine wpList_app _ rfl _ _ 28 rfl x.base 34 (.agg #[.slice none 0 0, .slice none 0 0, .slice none 0 0, .slice none 0 0]) 4 96 Try.underlying28 infoNote rfl (by decide) _ q (nt (pushB bk2 q b)) rfl (HU9.out.kept (fresh_alloc _ _)) _ 1 1 rfl (note_cells _ _) (fun _ _ => rfl) (by decide) (by unfold maxLen; omega) (by omega) (by simp; omega) ?_; intro u' w10 hown' happ; have HPP := hidd (pair_push ST8.out N8.out M6.out NO1.out NO2.out HOFF.out _ _ HO1.out HA1.out hown' happ); obtain ⟨u3, u4, rfl, _⟩ := hown'.rd; clear hown' happ HU9 z0 z1 z2 z3))
          clear ST8 N8 NO1 NO2 M6
          go_roundw
          case rel => exact ⟨q + 1, _, _, _, _, _, by omega, by go_num, ⟨HPP.out.1, ht, HOW.out nv⟩, HSM.out, HPP.out.2.1, HPP.out.2.2.1, HPP.out.2.2.2⟩
          case measure => simp [intOf]; omega
        · obtain rfl : q = LG := by omega
          obtain ⟨gN1, cN1, rfl, hr1, hg1⟩ := h1.nr hLG1
          obtain ⟨gN2, cN2, rfl, hr2, hg2⟩ := h2.nr hLG1
          have hgne : gN1 ≠ gN2 := fun e => hoff gN1 rfl (by rw [e]; rfl)
          have HWo := hidd (Wo.mk hW.st ht hW.ow hr1 hr2)
          clear hW h1 h2 hoff hr1 hr2 HSM d0 d1
          go_wp2
          go_loopw [25] (fun i wx => ∃ (i' : Nat) (s : Dy) (V2 : Nat → Int) (bk2 : Nat → Nat), i' ≤ m ∧ i = .int .i64 i' ∧ Wo x wx s N q gN1 cN1 gN2 cN2 V1 V2 bk1 bk2) (fun i _ => m - (intOf i).toNat)
          case atStart => exact ⟨0, s, V2, bk2, by omega, rfl, HWo.out⟩
          case round =>
            clear HWo
            obtain ⟨i, s, V2, bk2, hi, rfl, hW⟩ := hrel
            have d0 := hW.st.cell (i := 0) (by omega)
            have d1 := hW.st.cell (i := 1) (by omega)
            have HW := hidd hW
            by_cases hlm : i < m
            · obtain ⟨b1, o1, rfl, hc⟩ := (HRD.out.fresh hW.st.low).one (by omega)
              have df := hc i hlm
              have hpos := md_lt (f i) (show 0 < q by omega)
              have HMP := hidd (mod_any (f i) q wr (by omega) (by omega))
              have HLF := hidd hW.st.left
              generalize md (f i) q = pos at *
              generalize f i = fv at *
              have hdN := HPN.out pos hpos
              have hm0 := hW.ow.m0
              have hm1' := hW.ow.m1
              have HBX : Hid (∀ t, t < 2 → ∀ z, Below wr.heap.size wr z → Calls Try.prog 18 #[.pointer (some ⟨x.tb t, 0, none⟩)] z fun e w' => ∃ bb bc, e = .returned (.slice (some ⟨bb, 0, none⟩) N bc) ∧ Below wr.heap.size wr w' ∧ w'.cell? ⟨bb, pos / x.S, none⟩ = some (.int .i64 (s.bl t (pos / x.S) : Nat)) ∧ Below z.heap.size z w') := fun t ht' z fz => by
                have e : s.m t = N := by
                  match t, ht' with
                  | 0, _ => exact hm0
                  | 1, _ => exact hm1'
                have k := ((HW.out.st.fresh fz).blocks (i := t) (by omega) (by omega))
                rw [e] at k
                refine k.mono ?_
                rintro e w' ⟨ao, c, rfl, q1, q2, _⟩
                obtain ⟨bb, bc, F, hv, p1, p2, p3, pr, pF⟩ := Own.row1 q1 (Nat.lt_of_le_of_lt (Nat.zero_le _) hdN)
                simp only [Value.slice.injEq] at hv
                obtain ⟨rfl, _, rfl⟩ := hv
                exact ⟨bb, c, rfl, fresh_trans fz q2, by rw [pr.cell (Nat.lt_of_lt_of_le hdN p1), pF _ hdN], q2⟩
              obtain ⟨d, hd⟩ : ∃ d, d = pos / x.S := ⟨_, rfl⟩
              have HOWA : Hid (s.bl 0 d = s.bl 1 d → freeN s.cnt x.B = 0 → ∀ z, Below wr.heap.size wr z → Calls Try.prog 27 #[.pointer (some ⟨x.tb 1, 0, none⟩), .int .i64 pos] z fun e w' => e = .returned (.int .i64 60) ∧ Below wr.heap.size wr w') := fun e1 e2 z fz => by
                rw [hd] at e1
                exact ((HW.out.st.fresh fz).own3 ht HW.out.ow hN1 HPN.out hpos (by omega) e1 e2).mono (fun e w' ⟨p1, p2⟩ => ⟨p1, fresh_trans fz p2⟩)
              have HOWB : Hid ((s.bl 0 d = s.bl 1 d → freeN s.cnt x.B ≠ 0) → ∀ z, Below wr.heap.size wr z → Calls Try.prog 27 #[.pointer (some ⟨x.tb 1, 0, none⟩), .int .i64 pos] z fun e w' => e = .returned (.int .i64 0) ∧ w'.cell? ⟨x.lb, 1, none⟩ = some (.pointer (some ⟨x.tb 1, 0, none⟩)) ∧ Hid (∃ s', Wo x w' s' N q gN1 cN1 gN2 cN2 V1 V2 bk1 bk2 ∧ s'.cnt (s'.bl 1 (pos / x.S)) = 1 ∧ (∀ i, i < N → s'.bl 0 i ≠ s'.bl 1 (pos / x.S)))) := fun e1 z fz => by
                rw [hd] at e1
                have hz := HW.out.fresh fz
                refine (hz.st.own1 ht hz.ow hN1 HPN.out hpos (by omega) e1).mono ?_
                rintro e w' ⟨rfl, ⟨s', p1, p2, p3, p4⟩, p5⟩
                have hT := hz.st.T 1 (by omega)
                exact ⟨rfl, p1.cell (by omega), s', ⟨p1, ht, p2, hz.n1.chg hT.row hz.st.P.cnts hz.st.P.nums hT.own p5, hz.n2.chg hT.row hz.st.P.cnts hz.st.P.nums hT.own p5⟩, p3, p4⟩
              have t5 : (pos : Int).tdiv (x.S : Int) = ((pos / x.S : Nat) : Int) := rfl
              have t6 : (pos : Int) / (x.S : Int) = ((pos / x.S : Nat) : Int) := rfl
              have hdp := Nat.div_le_self pos x.S
              have hz9 : ¬ (x.S : Int) = 0 := by omega
              have hz9' : ((x.S : Int) == 0) = false := by simp; omega
              have hz9n : ¬ x.S = 0 := by omega
              rw [← hd] at HBX t5 t6 hdN hdp
              have j5 : IntKind.i64.wrap ((pos : Int).tdiv (x.S : Int)) = (d : Int) := by rw [t5, IntKind.wrap_i64]; omega
              have j6 : IntKind.i64.wrap (d : Int) = (d : Int) := by rw [IntKind.wrap_i64]; omega
              have j7 : (0 : Int) ≤ (d : Int) := by omega
              have j8 : (d : Int) < (N : Int) := by omega
              have HD := hidd hd
              clear hd hc
              have f5 : Below wr.heap.size wr wr.drew := (Below.refl _ _).drew
              have HBA : Hid (∀ z, Below wr.heap.size wr z → Calls Try.prog 18 #[.pointer (some ⟨x.tb 0, 0, none⟩)] z fun e w' => ∃ bb bc, e = .returned (.slice (some ⟨bb, 0, none⟩) N bc) ∧ Below wr.heap.size wr w' ∧ w'.cell? ⟨bb, d, none⟩ = some (.int .i64 (s.bl 0 d : Nat)) ∧ Below z.heap.size z w') := fun z fz => HBX.out 0 (by decide) z fz
              have HBB : Hid (∀ z, Below wr.heap.size wr z → Calls Try.prog 18 #[.pointer (some ⟨x.tb 1, 0, none⟩)] z fun e w' => ∃ bb bc, e = .returned (.slice (some ⟨bb, 0, none⟩) N bc) ∧ Below wr.heap.size wr w' ∧ w'.cell? ⟨bb, d, none⟩ = some (.int .i64 (s.bl 1 d : Nat)) ∧ Below z.heap.size z w') := fun z fz => HBX.out 1 (by decide) z fz
              have C0 := hidd (fun (z : World) (fz : Below wr.heap.size wr z) => And.intro (fresh_cell fz d0) (fresh_cell fz d1))
              generalize freeN s.cnt x.B = lf at *
              go_upto_region 27 with (first
                | (go_at_call 13; with_reducible refine HMP.out.mono ?_; rintro e w9 ⟨rfl, h9⟩; rw [h9]; clear h9 HMP)
                | (go_at_call 19; with_reducible refine HLF.out.mono ?_; rintro e w9 ⟨rfl, h9⟩; rw [h9]; clear h9 HLF))
              go_cut [28] (fun t wx => t = .bool (decide (s.bl 0 d = s.bl 1 d)) ∧ Below wr.heap.size wr wx)
              case first =>
                have hBe : Hid (((s.bl 0 d : Int) == (s.bl 1 d : Int)) = decide (s.bl 0 d = s.bl 1 d)) := by
                  show _ = _
                  by_cases e : s.bl 0 d = s.bl 1 d
                  · simp [e]
                  · rw [decide_eq_false e]; simp; omega
                clear HOWA HOWB HBX HW HRD HR HPN HD
                generalize hu0 : s.bl 0 d = u0 at *
                generalize hu1 : s.bl 1 d = u1 at *
                clear hu0 hu1
                go_region_with (first
                  | (go_at_call 18; with_reducible refine (HBA.out _ f5).mono ?_; rintro e wA ⟨ba, ka, rfl, ga, ca, _⟩; obtain ⟨da0, da1⟩ := C0.out _ ga)
                  | (go_at_call 18; with_reducible refine (HBB.out _ f5).mono ?_; rintro e wB ⟨bb, kb, rfl, gb, cb', _⟩; obtain ⟨db0, db1⟩ := C0.out _ gb)
                  | (go_at_call 18; with_reducible refine (HBB.out _ ga).mono ?_; rintro e wC ⟨bb, kb, rfl, g2, cb', h2⟩; have ca2 := fresh_cell h2 ca)
                  | (go_at_call 18; with_reducible refine (HBA.out _ gb).mono ?_; rintro e wC ⟨ba, ka, rfl, g2, ca, h2⟩; have cb2 := fresh_cell h2 cb'))
                all_goals
                  go_wp2
                  go_meet
                  case rel => exact ⟨by rw [← hBe.out], g2⟩
              case rest =>
                obtain ⟨hs28, f6⟩ := hcut
                have c61 := (C0.out _ f6).2
                clear C0 HBA HBB HBX f5 j5 j6 j7 j8 t5 t6
                by_cases hsh : s.bl 0 d = s.bl 1 d
                · rw [decide_eq_true hsh] at hs28
                  subst hs28
                  by_cases hlf : lf = 0
                  · have HOW1 := hidd (HOWA.out hsh hlf)
                    have hlf0 := hlf
                    clear HOWA HOWB hsh
                    have hlfb : ((lf : Int) == 0) = true := by simp; omega
                    clear hlf0
                    go_wp2_with (go_at_call 27; with_reducible refine (HOW1.out _ f6).mono ?_; rintro e w7 ⟨rfl, f7⟩)
                    go_roundw
                    case rel => exact ⟨i + 1, s, V2, bk2, by omega, by go_num, HW.out.fresh f7⟩
                    case measure => simp [intOf]; omega
                  · have HOW1 := hidd (HOWB.out (fun _ => hlf))
                    have hlfb : ((lf : Int) == 0) = false := by simp; omega
                    clear HOWA HOWB hsh HW
                    go_upto_if 187 with (first
                      | (go_at_call 27; with_reducible refine (HOW1.out _ f6).mono ?_; rintro e w7 ⟨rfl, c71, H7⟩))
                    clear HOW1
                    obtain ⟨s7, hW7, hc7, hn7⟩ := H7.out
                    clear H7
                    have hdN' : pos / x.S < N := by rw [← HD.out]; exact hdN
                    have hbd := hW7.ow.lt1 _ hdN'
                    obtain ⟨hyR, hyq⟩ := slo_lt (bl := s7.bl 1) (S := x.S) (B := x.B) (i := pos) (by omega) hbd
                    have hm1 := hW7.ow.m1
                    obtain ⟨y, hy⟩ : ∃ y, y = slo (s7.bl 1) x.S pos := ⟨_, rfl⟩
                    rw [← hy] at hyR hyq
                    have HSL : Hid (∀ z, Below w7.heap.size w7 z → Calls Try.prog 20 #[.pointer (some ⟨x.tb 1, 0, none⟩), .int .i64 pos] z fun e w' => e = .returned (.tuple #[.int .i64 (y : Nat), .int .i64 0]) ∧ Below w7.heap.size w7 w' ∧ w'.cell? ⟨x.lb, 1, none⟩ = some (.pointer (some ⟨x.tb 1, 0, none⟩))) := fun z fz => by
                      rw [hy]
                      refine ((hW7.st.fresh fz).slot (i := 1) (by omega) (by omega) (by omega) (by rw [hm1]; exact hdN') hbd).mono ?_
                      rintro e w' ⟨rfl, k⟩
                      exact ⟨rfl, fresh_trans fz k, (hW7.st.fresh (fresh_trans fz k)).cell (by omega)⟩
                    have HSL2 := HSL
                    have HOW2 : Hid (∀ z, Below w7.heap.size w7 z → Calls Try.prog 27 #[.pointer (some ⟨x.tb 1, 0, none⟩), .int .i64 pos] z fun e w' => e = .returned (.int .i64 0) ∧ Below w7.heap.size w7 w' ∧ w'.cell? ⟨x.lb, 1, none⟩ = some (.pointer (some ⟨x.tb 1, 0, none⟩))) := fun z fz => by
                      refine ((hW7.st.fresh fz).own2 ht hW7.ow hN1 HPN.out hpos (by omega) hc7).mono ?_
                      rintro e w' ⟨rfl, k⟩
                      exact ⟨rfl, fresh_trans fz k, (hW7.st.fresh (fresh_trans fz k)).cell (by omega)⟩
                    have HCT : Hid (∀ z, Below w7.heap.size w7 z → Calls Try.prog 28 #[.pointer (some ⟨x.g, 0, none⟩), .int .i64 ((y / x.S : Nat) : Int)] z fun e w' => e = .returned (.int .i64 1) ∧ w' = z) := fun z fz => by
                      have k := count_any (hW7.st.fresh fz).P ((y / x.S : Nat) : Int)
                      rw [hyq, cntI_nat _ hbd, hc7] at k
                      rw [hyq]
                      exact k
                    have HFI : Hid (∀ z, Below w7.heap.size w7 z → ∀ xx, Calls Try.prog 12 #[.pointer (some ⟨x.g, 0, none⟩), .int .i64 y, .int .i64 xx] z fun e w' => ∃ b nv, e = .returned (.tuple #[.agg #[.slice (some ⟨b 0, 0, none⟩) 3 3, .slice (some ⟨b 1, 0, none⟩) 3 3, .slice (some ⟨b 2, 0, none⟩) 3 3, .slice (some ⟨b 3, 0, none⟩) 3 3], .bool true]) ∧ Hid (∀ w2, Below w'.heap.size w' w2 → Wo x (put4 w2 gN2 pos b) { s7 with num := setS s7.num (slo (s7.bl 1) x.S pos * 12) nv } N q gN1 cN1 gN2 cN2 V1 (setS V2 (pos * 12) nv) bk1 (setB bk2 pos b)) ∧ Hid (∃ F, w'.rowIs gN2 34 (cN2 * 4) F ∧ ∀ c, c < 4 * q → F c = nt bk2 c)) := fun z fz xx => by
                      have hz := hW7.fresh fz
                      refine (fill_ok hz.st.P hz.st.geo hyR (by rw [hyq, hc7]; decide) xx).mono ?_
                      rintro e w' ⟨b, nv, rfl, q1, q2, q3, q4⟩
                      have hnl := hz.st.P.nums.lt
                      rw [hy] at q3
                      exact ⟨b, nv, rfl, fun w2 f2 => hz.fill (by omega) HPN.out hpos hn7 q1 (fun k hk e => by have := q2 k hk; omega) q3 q4 f2 hg2 hgne, (hz.n2.chgP hz.st.P.nums q4).N⟩
                    have t1 : (y : Int).tdiv (x.S : Int) = ((y / x.S : Nat) : Int) := rfl
                    have t2 : (y : Int) / (x.S : Int) = ((y / x.S : Nat) : Int) := rfl
                    have hyd := Nat.div_le_self y x.S
                    have hy102 : y ≤ 102 := by have := HR.out; omega
                    clear hyq hyR hy hc7 hn7 hbd
                    generalize y / x.S = yd at *
                    have fz0 := Below.refl w7.heap.size w7
                    have hcN2 := hW7.n2.nc
                    clear hW7
                    go_upto_region 38 with (first
                      | (go_at_call 20; with_reducible refine (HSL.out _ fz0).mono ?_; rintro e w8 ⟨rfl, f8, c81⟩; clear HSL)
                      | (go_at_call 27; with_reducible refine (HOW2.out _ f8).mono ?_; rintro e w9 ⟨rfl, f9, c91⟩; clear HOW2)
                      | (go_at_call 20; with_reducible refine (HSL2.out _ f9).mono ?_; rintro e w10 ⟨rfl, f10, c101⟩; clear HSL2)
                      | (go_at_call 28; with_reducible refine (HCT.out _ f10).mono ?_; rintro e w11 ⟨rfl, h11⟩; rw [h11]; clear h11 HCT)
                      | (go_at_call 12; with_reducible refine (HFI.out _ f10 _).mono ?_; rintro e w12 ⟨b, nv, rfl, H12, HN12⟩; clear HFI))
                    have fN := fresh_alloc w12 (.cells #[.slice (some ⟨b 0, 0, none⟩) 3 3, .slice (some ⟨b 1, 0, none⟩) 3 3, .slice (some ⟨b 2, 0, none⟩) 3 3, .slice (some ⟨b 3, 0, none⟩) 3 3] 34)
                    obtain ⟨y0, y1, y2, y3⟩ := row4 (row4_new w12 34 (.slice (some ⟨b 0, 0, none⟩) 3 3) (.slice (some ⟨b 1, 0, none⟩) 3 3) (.slice (some ⟨b 2, 0, none⟩) 3 3) (.slice (some ⟨b 3, 0, none⟩) 3 3))
                    obtain ⟨FN, hrN, hFN⟩ := HN12.out
                    have hr13 := hrN.of_block (fN.block _ hrN.lt)
                    have fz := hr13.frozen
                    have HK13 := hidd (H12.out _ fN)
                    have hca : ∀ k, k < 4 → (w12.alloc (.cells #[.slice (some ⟨b 0, 0, none⟩) 3 3, .slice (some ⟨b 1, 0, none⟩) 3 3, .slice (some ⟨b 2, 0, none⟩) 3 3, .slice (some ⟨b 3, 0, none⟩) 3 3] 34)).cell? ⟨gN2, pos * 4 + k, none⟩ = some (.slice (some ⟨bk2 (4 * pos + k), 0, none⟩) 3 3) := fun k hk => by
                      rw [hr13.cell (i := pos * 4 + k) (by omega), hFN _ (by omega), show pos * 4 + k = 4 * pos + k by omega]; rfl
                    have x0 := hca 0 (by decide)
                    have x1 := hca 1 (by decide)
                    have x2 := hca 2 (by decide)
                    have x3 := hca 3 (by decide)
                    simp only [Nat.add_zero] at x0
                    clear hca hr13 hrN hFN HN12 H12 fN
                    generalize hw13 : w12.alloc (.cells #[.slice (some ⟨b 0, 0, none⟩) 3 3, .slice (some ⟨b 1, 0, none⟩) 3 3, .slice (some ⟨b 2, 0, none⟩) 3 3, .slice (some ⟨b 3, 0, none⟩) 3 3] 34) = w13 at *
                    clear hw13
                    unfold put4 at HK13
                    go_wp2
                    go_roundw
                    case rel => exact ⟨i + 1, _, _, _, by omega, by go_num, HK13.out⟩
                    case measure => simp [intOf]; omega
                · rw [decide_eq_false hsh] at hs28
                  subst hs28
                  have HOW1 := hidd (HOWB.out (fun e => absurd e hsh))
                  clear HOWA HOWB hsh HW
                  go_upto_if 187 with (first
                    | (go_at_call 27; with_reducible refine (HOW1.out _ f6).mono ?_; rintro e w7 ⟨rfl, c71, H7⟩))
                  clear HOW1
                  obtain ⟨s7, hW7, hc7, hn7⟩ := H7.out
                  clear H7
                  have hdN' : pos / x.S < N := by rw [← HD.out]; exact hdN
                  have hbd := hW7.ow.lt1 _ hdN'
                  obtain ⟨hyR, hyq⟩ := slo_lt (bl := s7.bl 1) (S := x.S) (B := x.B) (i := pos) (by omega) hbd
                  have hm1 := hW7.ow.m1
                  obtain ⟨y, hy⟩ : ∃ y, y = slo (s7.bl 1) x.S pos := ⟨_, rfl⟩
                  rw [← hy] at hyR hyq
                  have HSL : Hid (∀ z, Below w7.heap.size w7 z → Calls Try.prog 20 #[.pointer (some ⟨x.tb 1, 0, none⟩), .int .i64 pos] z fun e w' => e = .returned (.tuple #[.int .i64 (y : Nat), .int .i64 0]) ∧ Below w7.heap.size w7 w' ∧ w'.cell? ⟨x.lb, 1, none⟩ = some (.pointer (some ⟨x.tb 1, 0, none⟩))) := fun z fz => by
                    rw [hy]
                    refine ((hW7.st.fresh fz).slot (i := 1) (by omega) (by omega) (by omega) (by rw [hm1]; exact hdN') hbd).mono ?_
                    rintro e w' ⟨rfl, k⟩
                    exact ⟨rfl, fresh_trans fz k, (hW7.st.fresh (fresh_trans fz k)).cell (by omega)⟩
                  have HSL2 := HSL
                  have HOW2 : Hid (∀ z, Below w7.heap.size w7 z → Calls Try.prog 27 #[.pointer (some ⟨x.tb 1, 0, none⟩), .int .i64 pos] z fun e w' => e = .returned (.int .i64 0) ∧ Below w7.heap.size w7 w' ∧ w'.cell? ⟨x.lb, 1, none⟩ = some (.pointer (some ⟨x.tb 1, 0, none⟩))) := fun z fz => by
                    refine ((hW7.st.fresh fz).own2 ht hW7.ow hN1 HPN.out hpos (by omega) hc7).mono ?_
                    rintro e w' ⟨rfl, k⟩
                    exact ⟨rfl, fresh_trans fz k, (hW7.st.fresh (fresh_trans fz k)).cell (by omega)⟩
                  have HCT : Hid (∀ z, Below w7.heap.size w7 z → Calls Try.prog 28 #[.pointer (some ⟨x.g, 0, none⟩), .int .i64 ((y / x.S : Nat) : Int)] z fun e w' => e = .returned (.int .i64 1) ∧ w' = z) := fun z fz => by
                    have k := count_any (hW7.st.fresh fz).P ((y / x.S : Nat) : Int)
                    rw [hyq, cntI_nat _ hbd, hc7] at k
                    rw [hyq]
                    exact k
                  have HFI : Hid (∀ z, Below w7.heap.size w7 z → ∀ xx, Calls Try.prog 12 #[.pointer (some ⟨x.g, 0, none⟩), .int .i64 y, .int .i64 xx] z fun e w' => ∃ b nv, e = .returned (.tuple #[.agg #[.slice (some ⟨b 0, 0, none⟩) 3 3, .slice (some ⟨b 1, 0, none⟩) 3 3, .slice (some ⟨b 2, 0, none⟩) 3 3, .slice (some ⟨b 3, 0, none⟩) 3 3], .bool true]) ∧ Hid (∀ w2, Below w'.heap.size w' w2 → Wo x (put4 w2 gN2 pos b) { s7 with num := setS s7.num (slo (s7.bl 1) x.S pos * 12) nv } N q gN1 cN1 gN2 cN2 V1 (setS V2 (pos * 12) nv) bk1 (setB bk2 pos b)) ∧ Hid (∃ F, w'.rowIs gN2 34 (cN2 * 4) F ∧ ∀ c, c < 4 * q → F c = nt bk2 c)) := fun z fz xx => by
                    have hz := hW7.fresh fz
                    refine (fill_ok hz.st.P hz.st.geo hyR (by rw [hyq, hc7]; decide) xx).mono ?_
                    rintro e w' ⟨b, nv, rfl, q1, q2, q3, q4⟩
                    have hnl := hz.st.P.nums.lt
                    rw [hy] at q3
                    exact ⟨b, nv, rfl, fun w2 f2 => hz.fill (by omega) HPN.out hpos hn7 q1 (fun k hk e => by have := q2 k hk; omega) q3 q4 f2 hg2 hgne, (hz.n2.chgP hz.st.P.nums q4).N⟩
                  have t1 : (y : Int).tdiv (x.S : Int) = ((y / x.S : Nat) : Int) := rfl
                  have t2 : (y : Int) / (x.S : Int) = ((y / x.S : Nat) : Int) := rfl
                  have hyd := Nat.div_le_self y x.S
                  have hy102 : y ≤ 102 := by have := HR.out; omega
                  clear hyq hyR hy hc7 hn7 hbd
                  generalize y / x.S = yd at *
                  have fz0 := Below.refl w7.heap.size w7
                  have hcN2 := hW7.n2.nc
                  clear hW7
                  go_upto_region 38 with (first
                    | (go_at_call 20; with_reducible refine (HSL.out _ fz0).mono ?_; rintro e w8 ⟨rfl, f8, c81⟩; clear HSL)
                    | (go_at_call 27; with_reducible refine (HOW2.out _ f8).mono ?_; rintro e w9 ⟨rfl, f9, c91⟩; clear HOW2)
                    | (go_at_call 20; with_reducible refine (HSL2.out _ f9).mono ?_; rintro e w10 ⟨rfl, f10, c101⟩; clear HSL2)
                    | (go_at_call 28; with_reducible refine (HCT.out _ f10).mono ?_; rintro e w11 ⟨rfl, h11⟩; rw [h11]; clear h11 HCT)
                    | (go_at_call 12; with_reducible refine (HFI.out _ f10 _).mono ?_; rintro e w12 ⟨b, nv, rfl, H12, HN12⟩; clear HFI))
                  have fN := fresh_alloc w12 (.cells #[.slice (some ⟨b 0, 0, none⟩) 3 3, .slice (some ⟨b 1, 0, none⟩) 3 3, .slice (some ⟨b 2, 0, none⟩) 3 3, .slice (some ⟨b 3, 0, none⟩) 3 3] 34)
                  obtain ⟨y0, y1, y2, y3⟩ := row4 (row4_new w12 34 (.slice (some ⟨b 0, 0, none⟩) 3 3) (.slice (some ⟨b 1, 0, none⟩) 3 3) (.slice (some ⟨b 2, 0, none⟩) 3 3) (.slice (some ⟨b 3, 0, none⟩) 3 3))
                  obtain ⟨FN, hrN, hFN⟩ := HN12.out
                  have hr13 := hrN.of_block (fN.block _ hrN.lt)
                  have fz := hr13.frozen
                  have HK13 := hidd (H12.out _ fN)
                  have hca : ∀ k, k < 4 → (w12.alloc (.cells #[.slice (some ⟨b 0, 0, none⟩) 3 3, .slice (some ⟨b 1, 0, none⟩) 3 3, .slice (some ⟨b 2, 0, none⟩) 3 3, .slice (some ⟨b 3, 0, none⟩) 3 3] 34)).cell? ⟨gN2, pos * 4 + k, none⟩ = some (.slice (some ⟨bk2 (4 * pos + k), 0, none⟩) 3 3) := fun k hk => by
                    rw [hr13.cell (i := pos * 4 + k) (by omega), hFN _ (by omega), show pos * 4 + k = 4 * pos + k by omega]; rfl
                  have x0 := hca 0 (by decide)
                  have x1 := hca 1 (by decide)
                  have x2 := hca 2 (by decide)
                  have x3 := hca 3 (by decide)
                  simp only [Nat.add_zero] at x0
                  clear hca hr13 hrN hFN HN12 H12 fN
                  generalize hw13 : w12.alloc (.cells #[.slice (some ⟨b 0, 0, none⟩) 3 3, .slice (some ⟨b 1, 0, none⟩) 3 3, .slice (some ⟨b 2, 0, none⟩) 3 3, .slice (some ⟨b 3, 0, none⟩) 3 3] 34) = w13 at *
                  clear hw13
                  unfold put4 at HK13
                  go_wp2
                  go_roundw
                  case rel => exact ⟨i + 1, _, _, _, by omega, by go_num, HK13.out⟩
                  case measure => simp [intOf]; omega
            · have HPL : Hid (∀ t, t < q → slo (s.bl 0) x.S t < x.B * x.S ∧ slo (s.bl 1) x.S t < x.B * x.S) := fun t ht' => ⟨(slo_lt (by omega) (HW.out.ow.lt0 _ (HPN.out t ht'))).1, (slo_lt (by omega) (HW.out.ow.lt1 _ (HPN.out t ht'))).1⟩
              have hm0 := hW.ow.m0
              have hm1 := hW.ow.m1
              have hc1 := hW.n1.nc
              have hc2 := hW.n2.nc
              clear hW d0 d1
              go_wp2
              go_loopw [36] (fun i wx => ∃ (t : Nat), t ≤ q ∧ i = .int .i64 t ∧ Below wr.heap.size wr wx) (fun i _ => q - (intOf i).toNat)
              case atStart => exact ⟨0, by omega, rfl, Below.refl _ _⟩
              case round =>
                obtain ⟨t, ht', rfl, hb⟩ := hrel
                by_cases hlt : t < q
                · have hkm := HW.out.fresh hb
                  have htN := HPN.out t hlt
                  obtain ⟨hp0, hp1⟩ := HPL.out t hlt
                  have e0 := hkm.st.cell (i := 0) (by omega)
                  obtain ⟨y0, y1, y2, y3⟩ := hkm.n1.cells hlt
                  obtain ⟨z0, z1, z2, z3⟩ := hkm.n2.cells hlt
                  have hq0 := (slo_lt (bl := s.bl 0) (S := x.S) (B := x.B) (i := t) (by omega) (hkm.ow.lt0 _ htN)).2
                  have hq1 := (slo_lt (bl := s.bl 1) (S := x.S) (B := x.B) (i := t) (by omega) (hkm.ow.lt1 _ htN)).2
                  have hk0 : s.cnt (slo (s.bl 0) x.S t / x.S) ≠ 0 := by
                    rw [hq0]
                    have := hkm.ow.cnt _ (hkm.ow.lt0 _ htN)
                    have := tms_one hkm.ow.ne0 htN
                    omega
                  have hk1 : s.cnt (slo (s.bl 1) x.S t / x.S) ≠ 0 := by
                    rw [hq1]
                    have := hkm.ow.cnt _ (hkm.ow.lt1 _ htN)
                    have := tms_one hkm.ow.ne1 htN
                    omega
                  have HS0 : Hid (Calls Try.prog 20 #[.pointer (some ⟨x.tb 0, 0, none⟩), .int .i64 t] wr fun e w' => e = .returned (.tuple #[.int .i64 ((slo (s.bl 0) x.S t : Nat) : Int), .int .i64 0]) ∧ Below wr.heap.size wr w' ∧ w'.cell? ⟨x.lb, 1, none⟩ = some (.pointer (some ⟨x.tb 1, 0, none⟩))) :=
                    (hkm.st.slot (i := 0) (by omega) (by omega) (by omega) (by rw [hm0]; exact htN) (hkm.ow.lt0 _ htN)).mono (fun e w' ⟨p1, p2⟩ => ⟨p1, p2, (hkm.st.fresh p2).cell (by omega)⟩)
                  have HS1 : Hid (∀ z, Below wr.heap.size wr z → Calls Try.prog 20 #[.pointer (some ⟨x.tb 1, 0, none⟩), .int .i64 t] z fun e w' => e = .returned (.tuple #[.int .i64 ((slo (s.bl 1) x.S t : Nat) : Int), .int .i64 0]) ∧ Below wr.heap.size wr w') := fun z fz =>
                    ((hkm.st.fresh fz).slot (i := 1) (by omega) (by omega) (by omega) (by rw [hm1]; exact htN) (hkm.ow.lt1 _ htN)).mono (fun e w' ⟨p1, p2⟩ => ⟨p1, fresh_trans fz p2⟩)
                  have HT0 : Hid (∀ z, Below wr.heap.size wr z → Calls Try.prog 15 #[.pointer (some ⟨x.g, 0, none⟩), .int .i64 ((slo (s.bl 0) x.S t : Nat) : Int), .agg #[.slice (some ⟨bk1 (4 * t + 0), 0, none⟩) 3 3, .slice (some ⟨bk1 (4 * t + 1), 0, none⟩) 3 3, .slice (some ⟨bk1 (4 * t + 2), 0, none⟩) 3 3, .slice (some ⟨bk1 (4 * t + 3), 0, none⟩) 3 3]] z fun e w' => e = .returned (.bool true) ∧ Below wr.heap.size wr w') := fun z fz =>
                    (Wo.tells (N := N) (hkm.st.fresh fz) (hkm.n1.fresh fz) hlt hp0 hk0 (hkm.ow.v1 t hlt) rfl).mono (fun e w' ⟨p1, p2⟩ => ⟨p1, fresh_trans fz p2⟩)
                  have HT1 : Hid (∀ z, Below wr.heap.size wr z → Calls Try.prog 15 #[.pointer (some ⟨x.g, 0, none⟩), .int .i64 ((slo (s.bl 1) x.S t : Nat) : Int), .agg #[.slice (some ⟨bk2 (4 * t + 0), 0, none⟩) 3 3, .slice (some ⟨bk2 (4 * t + 1), 0, none⟩) 3 3, .slice (some ⟨bk2 (4 * t + 2), 0, none⟩) 3 3, .slice (some ⟨bk2 (4 * t + 3), 0, none⟩) 3 3]] z fun e w' => e = .returned (.bool true) ∧ Below wr.heap.size wr w') := fun z fz =>
                    (Wo.tells (N := N) (hkm.st.fresh fz) (hkm.n2.fresh fz) hlt hp1 hk1 (hkm.ow.v2 t hlt) rfl).mono (fun e w' ⟨p1, p2⟩ => ⟨p1, fresh_trans fz p2⟩)
                  have Y := hidd (fun (z : World) (fz : Below wr.heap.size wr z) => And.intro (fresh_cell fz y0) (And.intro (fresh_cell fz y1) (And.intro (fresh_cell fz y2) (fresh_cell fz y3))))
                  have Z := hidd (fun (z : World) (fz : Below wr.heap.size wr z) => And.intro (fresh_cell fz z0) (And.intro (fresh_cell fz z1) (And.intro (fresh_cell fz z2) (fresh_cell fz z3))))
                  clear hkm hk0 hk1 hq0 hq1 hp0 hp1 y0 y1 y2 y3 z0 z1 z2 z3
                  generalize slo (s.bl 0) x.S t = ys at *
                  generalize slo (s.bl 1) x.S t = yt at *
                  generalize bk1 (4 * t + 0) = p0 at *
                  generalize bk1 (4 * t + 1) = p1 at *
                  generalize bk1 (4 * t + 2) = p2 at *
                  generalize bk1 (4 * t + 3) = p3 at *
                  generalize bk2 (4 * t + 0) = r0 at *
                  generalize bk2 (4 * t + 1) = r1 at *
                  generalize bk2 (4 * t + 2) = r2 at *
                  generalize bk2 (4 * t + 3) = r3 at *
                  go_wp2_with (first
                    | (go_at_call 20; with_reducible refine HS0.out.mono ?_; rintro e w8 ⟨rfl, f8, c8⟩; clear HS0)
                    | (go_at_call 20; with_reducible refine (HS1.out _ f8).mono ?_; rintro e w9 ⟨rfl, f9⟩; obtain ⟨y0, y1, y2, y3⟩ := Y.out _ f9; clear HS1)
                    | (go_at_call 15; with_reducible refine (HT0.out _ f9).mono ?_; rintro e w10 ⟨rfl, f10⟩; obtain ⟨z0, z1, z2, z3⟩ := Z.out _ f10; clear HT0)
                    | (go_at_call 15; with_reducible refine (HT1.out _ f10).mono ?_; rintro e w11 ⟨rfl, f11⟩; clear HT1))
                  go_roundw
                  case rel => exact ⟨t + 1, by omega, by go_num, fresh_trans hb f11⟩
                  case measure => simp [intOf]; omega
                · go_wp2
                  go_ret
                  exact ⟨rfl, (HW.out.fresh hb).st.low⟩
end Go.Proofs.Ytppcgfdogacmkaa
