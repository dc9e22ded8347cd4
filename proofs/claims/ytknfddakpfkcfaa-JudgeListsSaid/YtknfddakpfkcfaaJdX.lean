import Derived.Test.YtknfddakpfkcfaaJdW
namespace Go.Proofs.Ytknfddakpfkcfaa
open Go.RowKit Go.Shelf Go.Sort
/-! JudgeLists. -/
/-- a list's block lies between two sizes -/
def InB (v : Value) (a b : Nat) : Prop := ∀ k, v.ownBlock = some k → a ≤ k ∧ k < b
theorem inB_of {w : World} {b : Nat} {e : TypeId} {s n : Nat} {v : Value} {cs : Nat → Value} (h : Own w b e s v n cs) : InB v b w.heap.size := fun k hk => h.lt k hk
/-- the blocks of three lists -/
def G3 (x y z : Value) : Nat → Prop := fun b => x.ownBlock = some b ∨ y.ownBlock = some b ∨ z.ownBlock = some b
theorem G3.no {x y z v : Value} {a1 b1 a2 b2 a3 b3 a b : Nat} (h1 : InB x a1 b1) (h2 : InB y a2 b2) (h3 : InB z a3 b3) (h : InB v a b) (q1 : b ≤ a1 ∨ b1 ≤ a) (q2 : b ≤ a2 ∨ b2 ≤ a) (q3 : b ≤ a3 ∨ b3 ≤ a) : ∀ k, v.ownBlock = some k → ¬ G3 x y z k := fun k hk g => by
  have := h k hk
  rcases g with g | g | g
  · have := h1 k g; omega
  · have := h2 k g; omega
  · have := h3 k g; omega
theorem G3.ge {x y z : Value} {a1 b1 a2 b2 a3 b3 B : Nat} (h1 : InB x a1 b1) (h2 : InB y a2 b2) (h3 : InB z a3 b3) (q1 : B ≤ a1) (q2 : B ≤ a2) (q3 : B ≤ a3) : ∀ k, G3 x y z k → B ≤ k := fun k g => by
  rcases g with g | g | g
  · have := h1 k g; omega
  · have := h2 k g; omega
  · have := h3 k g; omega
theorem TkA.len {n : Nat} {P T D : Nat → Int} {l : Nat} {W : Nat → Int} {next most : Int} {w w' : World} {v : Value} {r : Nat} {ov : Bool} {er : Int} (h : TkA n P T D l W next most w w' v r ov er) (hl : l ≤ 32) : r ≤ 32 := by
  by_cases ht : okT n P T D
  · by_cases hw : isW n P l W
    · by_cases hm : most < 1
      · have := (h.arg ht hw hm).2.1; omega
      · have := (h.ok ht hw (by omega)).1.le; omega
    · have := (h.way ht hw).2.1; omega
  · have := (h.bad ht).2.1; omega
theorem PlA.len {l : Nat} {W : Nat → Int} {ns : Nat} {S : Nat → Int} {lz : Nat} {Z : Nat → Int} {w w' : World} {v : Value} {R : List (Int × Int)} {er : Int} (h : PlA l W ns S lz Z w w' v R er) (hl : l ≤ 32) : R.length ≤ 32 := by
  by_cases hm : mayP l W ns lz Z
  · rw [(h.ok hm).1]; exact Nat.le_trans (mvL_le _ _ _ _) hl
  · rw [(h.bad hm).2.1]; exact Nat.zero_le _
set_option maxRecDepth 20000 in
set_option maxHeartbeats 8000000 in
theorem lists_law {w : World} {ao bo co xo : Option Addr} {n l ns lz ca cb cc cx : Nat} {P T D C S Z : Nat → Int} {most : Int} (h : RdA w ao 3 n ca (nds P T D)) (hc : RdA w bo 1 l cb (fun i => .int .i64 (C i))) (hs : RdA w co 1 ns cc (fun i => .int .i64 (S i))) (hz : RdA w xo 1 lz cx (fun i => .int .i64 (Z i))) (h0 : n * 24 ≤ 140737488351232) (h1 : l ≤ 17592186043904) (h2 : ns ≤ 17592186043904) (h3 : lz ≤ 17592186043904) :
    Calls Try.prog 8 #[.slice ao n ca, .slice bo l cb, .slice co ns cc, .slice xo lz cx, .int .i64 most] w fun e w' => e = .returned (.bool true) ∧ Below w.heap.size w w' := by
  have HT := hidd h
  have HC := hidd hc
  have HS := hidd hs
  have HZ := hidd hz
  have K1 := hidd (works_any w)
  clear h hc hs hz
  go_enter Try.func8, Try.ntmps8
  go_upto_region 2 with (go_at_call 9; with_reducible refine K1.out.mono ?_; rintro e w1 ⟨rfl, hb⟩; have B1 := hidd hb; have K2 := hidd (copyN_any (HT.out.fresh hb) h0); clear K1 hb)
  go_upto_region 3 with (go_at_call 26; with_reducible refine K2.out.mono ?_; rintro e w2 ⟨ux, c2, rfl, ho, hb⟩; have X2 := hidd ho; have L2 := hidd hb; have B2 := hidd (B1.out.trans (hb.mono B1.out.size)); have K3 := hidd (rwalk_any (HT.out.fresh B2.out) (HC.out.fresh B2.out)); clear K2 ho hb)
  go_upto_region 4 with (go_at_call 22; with_reducible refine K3.out.mono ?_; rintro e w3 ⟨v3, m, x, er, rfl, q3⟩; have Q3 := hidd q3; have B3 := hidd (B2.out.trans (q3.low.mono B2.out.size)); have X3 := hidd (own_rda (X2.out.kept q3.low)); obtain ⟨u3, c3, rfl, _⟩ := own_sl q3.own; have K4 := hidd (walk_any X3.out (HC.out.fresh B3.out)); clear K3 q3)
  go_upto_region 5 with (go_at_call 16; with_reducible refine K4.out.mono ?_; rintro e w4 ⟨v4, m4, x4, er4, rfl, q4⟩; obtain ⟨rfl, rfl, rfl⟩ := Q3.out.same q4; have Q4 := hidd q4; have B4 := hidd (B3.out.trans (q4.low.mono B3.out.size)); have X4 := hidd (X3.out.fresh q4.low); obtain ⟨u4, c4, rfl, _⟩ := own_sl q4.own; have K5 := hidd (walk_any X4.out (HC.out.fresh B4.out)); clear K4 q4 X3)
  go_upto_region 6 with (go_at_call 16; with_reducible refine K5.out.mono ?_; rintro e w5 ⟨v5, m5, x5, er5, rfl, q5⟩; obtain ⟨rfl, rfl, rfl⟩ := Q3.out.same q5; have Q5 := hidd q5; have B5 := hidd (B4.out.trans (q5.low.mono B4.out.size)); have X5 := hidd (X4.out.fresh q5.low); obtain ⟨u5, c5, rfl, _⟩ := own_sl q5.own; clear K5 q5 X4)
  have hm := Q3.out.len
  obtain ⟨fy, HFY⟩ : ∃ f : Nat → Int, Hid ((fun i => Value.int .i64 (f i)) = wyC n P T C) := ⟨fun i => ((wyF n P T C i : Nat) : Int), rfl⟩
  have O3 := Q3.out.own
  have O4 := Q4.out.own
  have O5 := Q5.out.own
  rw [← HFY.out] at O3 O4 O5
  have O3 := hidd O3
  have O4 := hidd O4
  have O5 := hidd O5
  have L3 := hidd Q3.out.low
  have L4 := hidd Q4.out.low
  have L5 := hidd Q5.out.low
  clear Q4 Q5
  have K6 := hidd (copyI_any ((own_rda O4.out).fresh L5.out) (show m5 ≤ 17592186043904 by omega))
  go_upto_region 7 with (go_at_call 27; with_reducible refine K6.out.mono ?_; rintro e w6 ⟨um, cm, rfl, ho, hb⟩; have M6 := hidd ho; have L6 := hidd hb; have B6 := hidd (B5.out.trans (hb.mono B5.out.size)); have X6 := hidd (X5.out.fresh hb); have K7 := hidd (take_any (next := x5) (most := most) X6.out (own_rda ho)); clear K6 ho hb X5)
  go_upto_region 8 with (go_at_call 24; with_reducible refine K7.out.mono ?_; rintro e w7 k7; obtain ⟨v7, m7, x7, er7, rfl, q7⟩ := k7.out; clear k7; have Q7 := hidd q7; have B7 := hidd (B6.out.trans (q7.low.mono B6.out.size)); have X7 := hidd (X6.out.fresh q7.low); have M7 := hidd ((own_rda M6.out).fresh q7.low); obtain ⟨u7, c7, rfl, _⟩ := own_sl q7.own; have K8 := hidd (plan_any M7.out (HS.out.fresh B7.out) (HZ.out.fresh B7.out) (show m5 ≤ 8796093022208 by omega)); clear K7 q7 X6)
  go_upto_region 9 with (go_at_call 10; with_reducible refine K8.out.mono ?_; rintro e w8 k8; obtain ⟨v8, R8, er8, rfl, q8⟩ := k8.out; clear k8; have Q8 := hidd q8; have B8 := hidd (B7.out.trans (q8.low.mono B7.out.size)); have X8 := hidd (X7.out.fresh q8.low); have M8 := hidd (M7.out.fresh q8.low); obtain ⟨u8, c8, rfl, _⟩ := own_sl q8.own; have K9 := hidd (take_any (next := x5) (most := most) X8.out M8.out); clear K8 q8 X7 M7)
  go_upto_region 10 with (go_at_call 24; with_reducible refine K9.out.mono ?_; rintro e w9 k9; obtain ⟨v9, m9, x9, er9, rfl, q9⟩ := k9.out; clear k9; obtain ⟨rfl, rfl, rfl⟩ := Q7.out.same q9; have Q9 := hidd q9; have B9 := hidd (B8.out.trans (q9.low.mono B8.out.size)); have X9 := hidd (X8.out.fresh q9.low); have M9 := hidd (M8.out.fresh q9.low); obtain ⟨u9, c9, rfl, _⟩ := own_sl q9.own; have K10 := hidd (plan_any M9.out (HS.out.fresh B9.out) (HZ.out.fresh B9.out) (show m5 ≤ 8796093022208 by omega)); clear K9 q9 X8 M8)
  go_upto_region 11 with (go_at_call 10; with_reducible refine K10.out.mono ?_; rintro e w10 k10; obtain ⟨v10, R10, er10, rfl, q10⟩ := k10.out; clear k10; obtain ⟨rfl, rfl⟩ := Q8.out.same q10; have Q10 := hidd q10; have B10 := hidd (B9.out.trans (q10.low.mono B9.out.size)); obtain ⟨u10, c10, rfl, _⟩ := own_sl q10.own; clear K10 q10 X9 M9)
  have L7 := hidd Q7.out.low
  have L8 := hidd Q8.out.low
  have L9 := hidd Q9.out.low
  have L10 := hidd Q10.out.low
  have F6 := hidd (fresh_trans L4.out (fresh_trans L5.out (fresh_trans L6.out (fresh_trans L7.out (fresh_trans L8.out (fresh_trans L9.out L10.out))))))
  have W10 := hidd ((own_rda O3.out).fresh F6.out)
  have K11 := hidd (rtake_any (next := x5) (most := most) (HT.out.fresh B10.out) W10.out)
  go_upto_region 12 with (go_at_call 25; with_reducible refine K11.out.mono ?_; rintro e w11 k11; obtain ⟨v11, m11, x11, er11, rfl, q11⟩ := k11.out; clear k11; obtain ⟨rfl, rfl, rfl⟩ := Q7.out.same q11; have Q11 := hidd q11; have B11 := hidd (B10.out.trans (q11.low.mono B10.out.size)); have W11 := hidd (W10.out.fresh q11.low); obtain ⟨u11, c11, rfl, _⟩ := own_sl q11.own; have K12 := hidd (rplan_any W11.out (HS.out.fresh B11.out) (HZ.out.fresh B11.out) (show m5 ≤ 8796093022208 by omega)); clear K11 q11 W10)
  go_upto_region 13 with (go_at_call 12; with_reducible refine K12.out.mono ?_; rintro e w12 k12; obtain ⟨v12, R12, er12, rfl, q12⟩ := k12.out; clear k12; obtain ⟨rfl, rfl⟩ := Q8.out.same q12; have Q12 := hidd q12; have B12 := hidd (B11.out.trans (q12.low.mono B11.out.size)); obtain ⟨u12, c12, rfl, _⟩ := own_sl q12.own; clear K12 q12 W11)
  have L11 := hidd Q11.out.low
  have L12 := hidd Q12.out.low
  have G11 := hidd (fresh_trans L11.out L12.out)
  have G10 := hidd (fresh_trans L10.out G11.out)
  have G9 := hidd (fresh_trans L9.out G10.out)
  have G8 := hidd (fresh_trans L8.out G9.out)
  have G7 := hidd (fresh_trans L7.out G8.out)
  have G6 := hidd (fresh_trans L6.out G7.out)
  have G5 := hidd (fresh_trans L5.out G6.out)
  have G4 := hidd (fresh_trans L4.out G5.out)
  have G3' := hidd (fresh_trans L3.out G4.out)
  have P2 := hidd (X2.out.kept G3'.out)
  have P3 := hidd (O3.out.kept G4.out)
  have P4 := hidd (O4.out.kept G5.out)
  have P5 := hidd (O5.out.kept G6.out)
  have P6 := hidd (M6.out.kept G7.out)
  have P7 := hidd (Q7.out.own.kept G8.out)
  have P8 := hidd (Q8.out.own.kept G9.out)
  have P9 := hidd (Q9.out.own.kept G10.out)
  have P10 := hidd (Q10.out.own.kept G11.out)
  have P11 := hidd (Q11.out.own.kept L12.out)
  have P12 := hidd Q12.out.own
  have I2 := hidd (inB_of X2.out)
  have I3 := hidd (inB_of O3.out)
  have I4 := hidd (inB_of O4.out)
  have I5 := hidd (inB_of O5.out)
  have I6 := hidd (inB_of M6.out)
  have I7 := hidd (inB_of Q7.out.own)
  have I8 := hidd (inB_of Q8.out.own)
  have I9 := hidd (inB_of Q9.out.own)
  have I10 := hidd (inB_of Q10.out.own)
  have I11 := hidd (inB_of Q11.out.own)
  have I12 := hidd (inB_of Q12.out.own)
  have hl7 := Q7.out.len hm
  have hl8 := Q8.out.len hm
  have s1 := B1.out.size
  have s2 := L2.out.size
  have s3 := L3.out.size
  have s4 := L4.out.size
  have s5 := L5.out.size
  have s6 := L6.out.size
  have s7 := L7.out.size
  have s8 := L8.out.size
  have s9 := L9.out.size
  have s10 := L10.out.size
  have s11 := L11.out.size
  have s12 := L12.out.size
  have K13 := hidd (eqInts_same (own_rda P4.out) (own_rda P3.out))
  clear Q9 Q10 Q11 Q12 L3 L4 L5 L6 L7 L8 L9 L10 L11 L12 G3' G4 G5 G6 G7 G8 G9 G10 G11 X2 O3 O4 O5 M6 F6
  go_upto_region 14 with (first
    | (go_at_call 19; with_reducible refine K13.out.mono ?_; rintro e w13 ⟨rfl, hb⟩; have F1 := hidd hb; have K14 := hidd (eqInts_same ((own_rda P7.out).fresh hb) ((own_rda P11.out).fresh hb)); clear K13 hb)
    | (go_at_call 19; with_reducible refine K14.out.mono ?_; rintro e w14 ⟨rfl, hb⟩; have F2 := hidd (F1.out.trans (hb.mono F1.out.size)); have K15 := hidd (eqMoves_same ((own_rda P8.out).fresh F2.out) ((own_rda P12.out).fresh F2.out)); clear K14 hb)
    | (go_at_call 13; with_reducible refine K15.out.mono ?_; rintro e w15 ⟨rfl, hb⟩; have F13 := hidd (F2.out.trans (hb.mono F2.out.size)); clear K15 hb))
  have B15 := hidd (B12.out.trans (F13.out.mono B12.out.size))
  have s15 := F13.out.size
  have A2 := hidd (P2.out.kept F13.out)
  have A3 := hidd (P3.out.kept F13.out)
  have A4 := hidd (P4.out.kept F13.out)
  have A5 := hidd (P5.out.kept F13.out)
  have A6 := hidd (P6.out.kept F13.out)
  have A7 := hidd (P7.out.kept F13.out)
  have A8 := hidd (P8.out.kept F13.out)
  have A9 := hidd (P9.out.kept F13.out)
  have A10 := hidd (P10.out.kept F13.out)
  have A11 := hidd (P11.out.kept F13.out)
  have A12 := hidd (P12.out.kept F13.out)
  clear P2 P3 P4 P5 P6 P7 P8 P9 P10 P11 P12 F1 F2 F13 B2 B3 B4 B5 B6 B7 B8 B9 B10 B11 B12
  have K16 := hidd (over_any (mark := -5) A4.out (show m5 ≤ 1048576 by omega) (by omega))
  have N4_7 : Hid (∀ b, (Value.slice u7 m11 c7).ownBlock = some b → ¬ (Value.slice u4 m5 c4).ownBlock = some b) := fun b h1 h2 => by
    have := I7.out b h1; have := I4.out b h2; omega
  have N4_8 : Hid (∀ b, (Value.slice u8 R12.length c8).ownBlock = some b → ¬ (Value.slice u4 m5 c4).ownBlock = some b) := fun b h1 h2 => by
    have := I8.out b h1; have := I4.out b h2; omega
  have N7_8 : Hid (∀ b, (Value.slice u8 R12.length c8).ownBlock = some b → ¬ (Value.slice u7 m11 c7).ownBlock = some b) := fun b h1 h2 => by
    have := I8.out b h1; have := I7.out b h2; omega
  have HG4 : Hid (∀ b, (Value.slice u4 m5 c4).ownBlock = some b → G3 (.slice u4 m5 c4) (.slice u7 m11 c7) (.slice u8 R12.length c8) b) := fun b h => .inl h
  have HG7 : Hid (∀ b, (Value.slice u7 m11 c7).ownBlock = some b → G3 (.slice u4 m5 c4) (.slice u7 m11 c7) (.slice u8 R12.length c8) b) := fun b h => .inr (.inl h)
  have HG8 : Hid (∀ b, (Value.slice u8 R12.length c8).ownBlock = some b → G3 (.slice u4 m5 c4) (.slice u7 m11 c7) (.slice u8 R12.length c8) b) := fun b h => .inr (.inr h)
  obtain ⟨G, HGG⟩ : ∃ G, Hid (G = G3 (.slice u4 m5 c4) (.slice u7 m11 c7) (.slice u8 R12.length c8)) := ⟨_, rfl⟩
  rw [← HGG.out] at HG4 HG7 HG8
  go_upto_region 15 with (go_at_call 28; with_reducible refine K16.out.mono ?_; rintro e w16 ⟨rfl, c⟩; have C16 := hidd (c.imp (T := G) (fun b _ h => HG4.out b h)); have E7 := hidd (A7.out.chg c N4_7.out); have E8 := hidd (A8.out.chg c N4_8.out); have K17 := hidd (over_any (mark := -6) E7.out (show m11 ≤ 1048576 by omega) (Nat.le_trans (show w6.heap.size ≤ w15.heap.size by omega) c.size)); clear K16 c)
  go_upto_region 16 with (go_at_call 28; with_reducible refine K17.out.mono ?_; rintro e w17 ⟨rfl, c⟩; have C17 := hidd (C16.out.trans c (fun b _ h => HG7.out b h)); have F8 := hidd (E8.out.chg c N7_8.out); clear K17 c E7 E8 C16)
  have hr8 : R12.length ≤ 32 := hl8
  have I8b := hidd (G3.ge I4.out I7.out I8.out (B := w3.heap.size) (Nat.le_refl _) (by omega) (by omega))
  rw [← HGG.out] at I8b
  go_wp2
  go_loopw [39] (fun i wr => ∃ k : Nat, k ≤ R12.length ∧ i = .int .i64 (k : Int) ∧ ∃ cs' : Nat → Value, Hid (Own wr w7.heap.size 29 2 (.slice u8 R12.length c8) R12.length cs') ∧ Hid (Chg w15 wr G)) (fun i _ => R12.length - (intOf i).toNat)
  case atStart => exact ⟨0, by omega, rfl, _, F8, C17⟩
  case round =>
    clear F8 C17
    obtain ⟨k, hk, rfl, cs', HO, HCh⟩ := hrel
    by_cases hlt : k < R12.length
    · obtain ⟨g, rfl, _, _⟩ := own_blk HO.out (by omega)
      obtain ⟨b1, o1, e1, hcl⟩ := (own_rda HO.out).at_ (by omega)
      cases e1
      have x0 := hcl (k * 2) (by omega)
      have x1 := hcl (k * 2 + 1) (by omega)
      simp only [Nat.zero_add] at x0 x1
      have fz := own_fz HO.out
      have k0 : (0 : Int) ≤ (k : Int) := by omega
      have k1 : (k : Int) < (R12.length : Int) := by omega
      have HP := hidd ((HO.out.put (k * 2) (.int .i64 (-7))).put (k * 2 + 1) (.int .i64 0))
      have HC2 := hidd ((HCh.out.trans (Chg.of_set wr g (k * 2) (.int .i64 (-7))) (fun b _ e => HG8.out b (by rw [e]; rfl))).trans (Chg.of_set _ g (k * 2 + 1) (.int .i64 0)) (fun b _ e => HG8.out b (by rw [e]; rfl)))
      clear hcl
      go_wp2
      go_roundw
      case rel => exact ⟨k + 1, by omega, by go_num, _, HP, HC2⟩
      case measure => simp [intOf]; omega
    · obtain rfl : k = R12.length := by omega
      have HO0 := HO
      have HC0 := HCh
      clear HO HCh hlt hk
      go_wp2
      go_loopw [40, 41] (fun v i wr => ∃ q : Nat, q ≤ 64 ∧ i = .int .i64 (q : Int) ∧ ∃ cs' : Nat → Value, Hid (Own wr w7.heap.size 29 2 v (R12.length + q) cs') ∧ Hid (Chg w15 wr G) ∧ Hid (∀ b, v.ownBlock = some b → G b ∨ w15.heap.size ≤ b)) (fun _ i _ => 64 - (intOf i).toNat)
      case atStart => exact ⟨0, by omega, rfl, _, HO0, HC0, fun b hb => .inl (HG8.out b hb)⟩
      case round =>
        clear HO0 HC0
        obtain ⟨q, hq, rfl, cs2, HO, HCh, HV⟩ := hrel
        have hsz := HCh.out.size
        by_cases hlt : q < 64
        · have q1 : (q : Int) < 64 := by omega
          obtain ⟨a, HA⟩ : ∃ a, Hid (a = R12.length + q) := ⟨_, rfl⟩
          rw [← HA.out] at HO
          obtain ⟨cs3, HC3⟩ : ∃ f : Nat → Value, Hid (f = fun j => if j = a * 2 then Value.int .i64 0 else if j = a * 2 + 1 then Value.int .i64 (-8) else cs2 j) := ⟨_, rfl⟩
          have HO2 := hidd (HO.out.congr (cs' := cs3) (fun j hj => by
            rw [HC3.out]
            show cs2 j = if j = a * 2 then _ else if j = a * 2 + 1 then _ else cs2 j
            rw [if_neg (by omega), if_neg (by omega)]))
          have HX : Hid (∀ w0 : World, ∀ j, j < 1 * 2 → (w0.alloc (.cells #[.int .i64 0, .int .i64 (-8)] 29)).cell? ⟨w0.heap.size, j, none⟩ = some (cs3 (a * 2 + j))) := fun w0 j hj => by
            rw [HC3.out]
            unfold World.cell?
            rw [World.alloc_heap_new]
            match j, hj with
            | 0, _ =>
              show _ = some (if a * 2 + 0 = a * 2 then _ else _)
              rw [if_pos (by omega)]; rfl
            | 1, _ =>
              show _ = some (if a * 2 + 1 = a * 2 then _ else if a * 2 + 1 = a * 2 + 1 then _ else _)
              rw [if_neg (by omega), if_pos rfl]; rfl
          have HON : Hid (∀ j, j < 1 * 2 → (cs3 (a * 2 + j)).oneCell' = true) := fun j hj => by
            rw [HC3.out]
            match j, hj with
            | 0, _ =>
              show (if a * 2 + 0 = a * 2 then Value.int .i64 0 else if a * 2 + 0 = a * 2 + 1 then Value.int .i64 (-8) else cs2 (a * 2 + 0)).oneCell' = true
              rw [if_pos (by omega)]; rfl
            | 1, _ =>
              show (if a * 2 + 1 = a * 2 then Value.int .i64 0 else if a * 2 + 1 = a * 2 + 1 then Value.int .i64 (-8) else cs2 (a * 2 + 1)).oneCell' = true
              rw [if_neg (by omega), if_pos rfl]; rfl
          have ha : a ≤ 96 := by have := HA.out; omega
          go_wp2_with (at_builtin; refine wpList_app _ rfl _ _ 24 rfl w7.heap.size 29 (.agg #[.int .i64 0, .int .i64 0]) 2 16 Try.underlying24 infoM rfl (by decide) _ a cs3 rfl (HO2.out.kept (fresh_alloc _ _)) _ 1 1 rfl (HX.out _) HON.out (by decide) (by unfold maxLen; omega) (by omega) (by simp; omega) ?_)
          intro v' w4 hown' happ
          have HC4 := hidd (((HCh.out.post (fresh_alloc _ _)).trans (Chg.of_app happ) (fun b hb e => by
            rcases HV.out b e with r | r
            · exact r
            · omega)))
          have HV4 : Hid (∀ b, v'.ownBlock = some b → G b ∨ w15.heap.size ≤ b) := fun b hb => by
            rcases happ.blk b hb with r | r
            · exact HV.out b r
            · exact .inr (by simp at r; omega)
          have HO4 : Hid (Own w4 w7.heap.size 29 2 v' (R12.length + (q + 1)) cs3) := by rw [← Nat.add_assoc, ← HA.out]; exact hown'
          clear happ hown' HX HO2 HON HO HCh HV
          go_wp2
          go_roundw
          case rel => exact ⟨q + 1, by omega, by go_num, _, HO4, HC4, HV4⟩
          case measure => simp [intOf]; omega
        · have hq64 : q = 64 := by omega
          subst hq64
          obtain ⟨u40, c40, rfl, _⟩ := own_sl HO.out
          have C18 := HCh
          clear HO HV HCh hq hlt hsz
          have sz := C18.out.size
          have B18 := hidd (C18.out.below B15.out B15.out.size (fun b hb => Nat.le_trans (show w.heap.size ≤ w3.heap.size by omega) (I8b.out b hb)))
          have E2 := hidd (own_rda (A2.out.chg C18.out (by rw [HGG.out]; exact G3.no I4.out I7.out I8.out I2.out (by omega) (by omega) (by omega))))
          have E3 := hidd (own_rda (A3.out.chg C18.out (by rw [HGG.out]; exact G3.no I4.out I7.out I8.out I3.out (by omega) (by omega) (by omega))))
          have E5 := hidd (own_rda (A5.out.chg C18.out (by rw [HGG.out]; exact G3.no I4.out I7.out I8.out I5.out (by omega) (by omega) (by omega))))
          have E6 := hidd (own_rda (A6.out.chg C18.out (by rw [HGG.out]; exact G3.no I4.out I7.out I8.out I6.out (by omega) (by omega) (by omega))))
          have E9 := hidd (own_rda (A9.out.chg C18.out (by rw [HGG.out]; exact G3.no I4.out I7.out I8.out I9.out (by omega) (by omega) (by omega))))
          have E10 := hidd (own_rda (A10.out.chg C18.out (by rw [HGG.out]; exact G3.no I4.out I7.out I8.out I10.out (by omega) (by omega) (by omega))))
          have E11 := hidd (own_rda (A11.out.chg C18.out (by rw [HGG.out]; exact G3.no I4.out I7.out I8.out I11.out (by omega) (by omega) (by omega))))
          have E12 := hidd (own_rda (A12.out.chg C18.out (by rw [HGG.out]; exact G3.no I4.out I7.out I8.out I12.out (by omega) (by omega) (by omega))))
          clear A2 A3 A4 A5 A6 A7 A8 A9 A10 A11 A12 I2 I3 I4 I5 I6 I7 I8 I9 I10 I11 I12 HG4 HG7 HG8 HGG N4_7 N4_8 N7_8 C18 I8b B15 sz s1 s2 s3 s4 s5 s6 s7 s8 s9 s10 s11 s12 s15
          have K19 := hidd (eqInts_same E5.out E3.out)
          rename World => w18
          go_upto_region 26 with (first
            | (go_at_call 19; with_reducible refine K19.out.mono ?_; rintro e w19 ⟨rfl, hb⟩; have F19 := hidd hb; have K20 := hidd (eqInts_same (E9.out.fresh hb) (E11.out.fresh hb)); clear K19 hb)
            | (go_at_call 19; with_reducible refine K20.out.mono ?_; rintro e w20 ⟨rfl, hb⟩; have F20 := hidd (F19.out.trans (hb.mono F19.out.size)); have K21 := hidd (eqMoves_same (E10.out.fresh F20.out) (E12.out.fresh F20.out)); clear K20 hb)
            | (go_at_call 13; with_reducible refine K21.out.mono ?_; rintro e w21 ⟨rfl, hb⟩; have F21 := hidd (F20.out.trans (hb.mono F20.out.size)); have B21 := hidd (B18.out.trans (F21.out.mono B18.out.size)); have K22 := hidd (walk_any (E2.out.fresh F21.out) (HC.out.fresh B21.out)); clear K21 hb))
          go_upto_region 27 with (go_at_call 16; with_reducible refine K22.out.mono ?_; rintro e w22 ⟨v22, m22, x22, er22, rfl, q22⟩; obtain ⟨rfl, rfl, rfl⟩ := Q3.out.same q22; have Q22 := hidd q22; have F22 := hidd (F21.out.trans (q22.low.mono F21.out.size)); have B22 := hidd (B18.out.trans (F22.out.mono B18.out.size)); obtain ⟨u22, c22, rfl, _⟩ := own_sl q22.own; clear K22 q22)
          have O22 := Q22.out.own
          rw [← HFY.out] at O22
          have R22 := hidd (own_rda O22)
          have K23 := hidd (take_any (next := x22) (most := most) (E2.out.fresh F22.out) (E6.out.fresh F22.out))
          clear O22 Q22
          go_upto_region 28 with (go_at_call 24; with_reducible refine K23.out.mono ?_; rintro e w23 k23; obtain ⟨v23, m23, x23, er23, rfl, q23⟩ := k23.out; clear k23; obtain ⟨rfl, rfl, rfl⟩ := Q7.out.same q23; have F23 := hidd (F22.out.trans (q23.low.mono F22.out.size)); have B23 := hidd (B18.out.trans (F23.out.mono B18.out.size)); have S23 := hidd (R22.out.fresh q23.low); obtain ⟨u23, c23, rfl, hr⟩ := own_sl q23.own; have R23 := hidd hr; have K24 := hidd (plan_any (E6.out.fresh F23.out) (HS.out.fresh B23.out) (HZ.out.fresh B23.out) (show m22 ≤ 8796093022208 by omega)); clear K23 q23 R22)
          go_upto_region 29 with (go_at_call 10; with_reducible refine K24.out.mono ?_; rintro e w24 k24; obtain ⟨v24, R24, er24, rfl, q24⟩ := k24.out; clear k24; obtain ⟨rfl, rfl⟩ := Q8.out.same q24; have F24 := hidd (F23.out.trans (q24.low.mono F23.out.size)); have B24 := hidd (B18.out.trans (F24.out.mono B18.out.size)); have S24 := hidd (S23.out.fresh q24.low); have U24 := hidd (R23.out.fresh q24.low); obtain ⟨u24, c24, rfl, hr⟩ := own_sl q24.own; have R24' := hidd hr; have K25 := hidd (eqInts_same S24.out (E3.out.fresh F24.out)); clear K24 q24 S23 R23)
          go_upto_region 30 with (first
            | (go_at_call 19; with_reducible refine K25.out.mono ?_; rintro e w25 ⟨rfl, hb⟩; have H25 := hidd hb; have K26 := hidd (eqInts_same (U24.out.fresh hb) ((E11.out.fresh F24.out).fresh hb)); clear K25 hb)
            | (go_at_call 19; with_reducible refine K26.out.mono ?_; rintro e w26 ⟨rfl, hb⟩; have H26 := hidd (H25.out.trans (hb.mono H25.out.size)); have K27 := hidd (eqMoves_same (R24'.out.fresh H26.out) ((E12.out.fresh F24.out).fresh H26.out)); clear K26 hb)
            | (go_at_call 13; with_reducible refine K27.out.mono ?_; rintro e w27 ⟨rfl, hb⟩; have H27 := hidd (H26.out.trans (hb.mono H26.out.size)); have B27 := hidd (B24.out.trans (H27.out.mono B24.out.size)); have K28 := hidd (eqNodes_same ((E2.out.fresh F24.out).fresh H27.out) (HT.out.fresh B27.out)); clear K27 hb)
            | (go_at_call 29; with_reducible refine K28.out.mono ?_; rintro e w28 ⟨rfl, hb⟩; have B28 := hidd (B27.out.trans (hb.mono B27.out.size)); have K29 := hidd (anew_any (most := most) (HT.out.fresh B28.out) (HC.out.fresh B28.out) (HS.out.fresh B28.out) (HZ.out.fresh B28.out) h1 h2 h3); clear K28 hb))
          go_wp2_with (go_at_call 30; with_reducible refine K29.out.mono ?_; rintro e w29 ⟨rfl, hb⟩; have B29 := hidd (B28.out.trans (hb.mono B28.out.size)); clear K29 hb)
          go_ret
          exact ⟨rfl, B29.out⟩
end Go.Proofs.Ytknfddakpfkcfaa
