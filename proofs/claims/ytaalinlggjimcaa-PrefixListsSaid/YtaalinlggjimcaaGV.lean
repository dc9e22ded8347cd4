import Derived.Test.YtaalinlggjimcaaGU
namespace Go.Proofs.Ytaalinlggjimcaa
open Go.RowKit
/-! step: Find. -/
def StepP (w : World) (X : Wx) (lab : Nat → Nat) (bd : Nat) (e : Ending) (w' : World) : Prop := e = .returned (.bool true) ∧ ∃ lab' L' N' num' y' mine', St w' X lab' L' N' num' y' mine' (bd + 1) ∧ (∀ z, z < w.heap.size → lab' z = lab z) ∧ Chg w w' (fun z => lab z ≠ 0)
structure OpAt (w : World) (lab : Nat → Nat) (tO : Option Addr) (T cap : Nat) (t : Nat → Int) : Prop where
  rd : RdA w tO 1 T cap (fun i => .int .i64 (t i))
  fit : ∀ i, i < T → fits (t i)
  off : 0 < T → ∀ b o, tO = some ⟨b, o, none⟩ → lab b = 0
  le : T ≤ 2147483647
def Bx (w : World) (bx : Nat) (kind who n : Int) (tv bv : Value) : Prop := w.cell? ⟨bx, 0, none⟩ = some (.int .i64 kind) ∧ w.cell? ⟨bx, 1, none⟩ = some (.int .i64 who) ∧ w.cell? ⟨bx, 2, none⟩ = some tv ∧ w.cell? ⟨bx, 3, none⟩ = some bv ∧ w.cell? ⟨bx, 4, none⟩ = some (.int .i64 n)
theorem Bx.parts {w : World} {bx : Nat} {kind who n : Int} {tv bv : Value} (h : Bx w bx kind who n tv bv) : w.cell? ⟨bx, 0, none⟩ = some (.int .i64 kind) ∧ w.cell? ⟨bx, 1, none⟩ = some (.int .i64 who) ∧ w.cell? ⟨bx, 2, none⟩ = some tv ∧ w.cell? ⟨bx, 3, none⟩ = some bv ∧ w.cell? ⟨bx, 4, none⟩ = some (.int .i64 n) := h
theorem Bx.chg {w w' : World} {bx : Nat} {kind who n : Int} {tv bv : Value} (h : Bx w bx kind who n tv bv) {T : Nat → Prop} (k : Chg w w' T) (hT : ¬ T bx) : Bx w' bx kind who n tv bv :=
  ⟨k.cell h.1 hT, k.cell h.2.1 hT, k.cell h.2.2.1 hT, k.cell h.2.2.2.1 hT, k.cell h.2.2.2.2 hT⟩
theorem Bx.fresh {w w' : World} {bx : Nat} {kind who n : Int} {tv bv : Value} (h : Bx w bx kind who n tv bv) (f : Below w.heap.size w w') : Bx w' bx kind who n tv bv := h.chg (Chg.of_below (fun _ => False) f) id
theorem Bx.new (w : World) (kind who n : Int) (tv bv : Value) : Bx (w.alloc (.cells #[.int .i64 kind, .int .i64 who, tv, bv, .int .i64 n] 56)) w.heap.size kind who n tv bv := by
  refine ⟨?_, ?_, ?_, ?_, ?_⟩ <;> simp
theorem OpAt.fresh {w w' : World} {lab : Nat → Nat} {tO : Option Addr} {T cap : Nat} {t : Nat → Int} (h : OpAt w lab tO T cap t) (f : Below w.heap.size w w') : OpAt w' lab tO T cap t := ⟨h.rd.fresh f, h.fit, h.off, h.le⟩
theorem OpAt.chg {w w' : World} {lab : Nat → Nat} {tO : Option Addr} {T cap : Nat} {t : Nat → Int} (h : OpAt w lab tO T cap t) (k : Chg w w' (fun z => lab z ≠ 0)) : OpAt w' lab tO T cap t := ⟨h.rd.chg0 k (fun h0 b o e q => q (h.off h0 b o e)), h.fit, h.off, h.le⟩
theorem OpAt.relab {w : World} {lab lab' : Nat → Nat} {tO : Option Addr} {T cap : Nat} {t : Nat → Int} (h : OpAt w lab tO T cap t) (e : ∀ z, z < w.heap.size → lab' z = lab z) : OpAt w lab' tO T cap t := by
  refine ⟨h.rd, h.fit, fun h0 b o eq => ?_, h.le⟩
  obtain ⟨b1, o1, e1, hc⟩ := h.rd.at_ h0
  rw [eq] at e1
  injection e1 with e1
  injection e1 with e1 _
  subst e1
  rw [e b (lt_of_cell (hc 0 (by omega)))]
  exact h.off h0 b o eq
theorem St.fresh {w w' : World} {X : Wx} {lab : Nat → Nat} {L : Nat → List Nd} {N : Nat → Nat} {num : Nat → Int} {y : Ry} {mine : Nat → Nat} {bd : Nat} (h : St w X lab L N num y mine bd) (f : Below w.heap.size w w') : St w' X lab L N num y mine bd := by
  have k := Chg.of_below (fun _ => False) f
  exact ⟨h.ps.chg k (fun _ e => e.elim), h.rs.chg k (fun _ e => e.elim), h.ws.chg k (fun _ e => e.elim), h.inv⟩
set_option maxRecDepth 20000 in
set_option maxHeartbeats 3200000 in
theorem step_find {w : World} {X : Wx} {lab : Nat → Nat} {L : Nat → List Nd} {N : Nat → Nat} {num : Nat → Int} {y : Ry} {mine : Nat → Nat} {bd : Nat} (h : St w X lab L N num y mine bd) (hbd : bd ≤ 1099511627776) {tO : Option Addr} {T cap : Nat} {t : Nat → Int} (ht : OpAt w lab tO T cap t) (bv : Value) (n who : Int) {k : Nat} (hk : k < 2) (hr : who.tmod 2 = (k : Int) ∨ (who.tmod 2 = -1 ∧ k = 1)) (hZ : X.Z k) :
    Calls Try.prog 28 #[.pointer (some ⟨X.wd, 0, none⟩), .agg #[.int .i64 4, .int .i64 who, .slice tO T cap, bv, .int .i64 n]] w (StepP w X lab bd) := by
  have hNk : N k ≤ 4611686018427387904 := by have := h.inv.bN k hk; omega
  have hTl := ht.le
  obtain ⟨wb, hwb⟩ : ∃ wb, wb = w.alloc (.cells #[.int .i64 4, .int .i64 who, .slice tO T cap, bv, .int .i64 n] 56) := ⟨_, rfl⟩
  have fb : Below w.heap.size w wb := by rw [hwb]; exact fresh_alloc _ _
  have hbx : Bx wb w.heap.size 4 who n (.slice tO T cap) bv := by rw [hwb]; exact Bx.new _ _ _ _ _ _
  have Hb := h.fresh fb
  have lb0 : lab w.heap.size = 0 := Classical.not_not.1 (fun e => absurd (h.ws.low _ e) (Nat.lt_irrefl _))
  have hlz : ∀ z, w.heap.size ≤ z → lab z = 0 := fun z hz => Classical.not_not.1 (fun e => absurd (h.ws.low _ e) (by omega))
  obtain ⟨c0, ck, c3, dk, c6⟩ := PS.cells Hb.ws
  have ckk := ck k hk
  have dkk := dk k hk
  obtain ⟨g5, hg5⟩ : ∃ g5, g5 = wb.heap.size := ⟨_, rfl⟩
  have hg5w : w.heap.size ≤ g5 := by rw [hg5]; exact fb.size
  have lg5 := hlz g5 hg5w
  have HMK : Hid (Calls Try.prog 53 #[.slice tO T cap] wb fun e w5 => e = .returned (.slice (some ⟨g5, 0, none⟩) T (T + 64)) ∧ Bx w5 w.heap.size 4 who n (.slice tO T cap) bv ∧ Hid (w5.rowIs g5 3 (T + 64) (fun i => .int .i64 (mkd t T i)) ∧ St w5 X lab L N num y mine bd ∧ OpAt w5 lab tO T cap t ∧ Below w.heap.size w w5)) := by
    refine (marked_any (ht.fresh fb).rd hTl).mono ?_
    rintro e w5 ⟨rfl, h1, h2⟩
    rw [hg5]
    exact ⟨rfl, hbx.fresh h2, h1, Hb.fresh h2, (ht.fresh fb).fresh h2, fb.trans (h2.mono fb.size)⟩
  have HF1 : Hid (∀ w5, Bx w5 w.heap.size 4 who n (.slice tO T cap) bv → Hid (w5.rowIs g5 3 (T + 64) (fun i => .int .i64 (mkd t T i)) ∧ St w5 X lab L N num y mine bd ∧ OpAt w5 lab tO T cap t ∧ Below w.heap.size w w5) → Calls Try.prog 11 #[.pointer (some ⟨(X.c k).C, 0, none⟩), .slice (some ⟨g5, 0, none⟩) T (T + 64)] w5 fun e w6 => ∃ g6 q, e = .returned (.slice (some ⟨g6, 0, none⟩) q q) ∧ Bx w6 w.heap.size 4 who n (.slice tO T cap) bv ∧ Hid (∃ b o, Long (X.c k).C (L k) (pcL t X.S (T / X.S)) q b o ∧ w6.rowIs g5 3 (T + 64) (fun i => .int .i64 (mkd t T i)) ∧ w6.rowIs g6 3 q (fun j => .int .i64 (bkF (L k) (pcL t X.S (T / X.S)) j : Nat)) ∧ w.heap.size ≤ g6 ∧ PS w6 X lab (setF L k (useL (L k) ((pcL t X.S (T / X.S)).take q) (N k + 1))) (setF N k (N k + 1)) y.cnt num ∧ RS w6 X lab L N y ∧ WS w6 X lab mine ∧ OpAt w6 lab tO T cap t ∧ Chg w w6 (fun z => lab z ≠ 0))) := fun w5 x5 A5 => by
    obtain ⟨r5, s5, o5, f5⟩ := A5
    have hrd : RdA w5 (some ⟨g5, 0, none⟩) 1 T (T + 64) (fun i => .int .i64 (t i)) := ⟨by omega, by unfold maxLen; omega, fun _ => ⟨g5, 0, rfl, fun j hj => by
      have := r5.cell (i := j) (by omega)
      rw [Nat.zero_add, this]
      unfold mkd
      rw [if_pos (by omega)]⟩⟩
    refine (ps_find s5.ps hk hNk hrd ht.fit).mono ?_
    rintro e w6 ⟨q, b, o, g6, rfl, hl, hr6, hg6, hps, hch⟩
    have ch0 : Chg w5 w6 (fun z => lab z ≠ 0) := hch.imp (fun z _ e => by have e : lab z = 3 + k := e; omega)
    refine ⟨g6, q, rfl, x5.chg ch0 (fun e => e lb0), b, o, hl, ch0.row r5 (fun e => e lg5), hr6, Nat.le_trans f5.size hg6, hps, s5.rs.chg hch (fun z e => by have e : lab z = 3 + k := e; omega), s5.ws.chg hch (fun z e => by have e : lab z = 3 + k := e; omega), o5.chg ch0, (Chg.of_below _ f5).trans ch0 (fun _ _ e => e)⟩
  have HF2 : Hid (∀ w6 g6 q, Bx w6 w.heap.size 4 who n (.slice tO T cap) bv → Hid (∃ b o, Long (X.c k).C (L k) (pcL t X.S (T / X.S)) q b o ∧ w6.rowIs g5 3 (T + 64) (fun i => .int .i64 (mkd t T i)) ∧ w6.rowIs g6 3 q (fun j => .int .i64 (bkF (L k) (pcL t X.S (T / X.S)) j : Nat)) ∧ w.heap.size ≤ g6 ∧ PS w6 X lab (setF L k (useL (L k) ((pcL t X.S (T / X.S)).take q) (N k + 1))) (setF N k (N k + 1)) y.cnt num ∧ RS w6 X lab L N y ∧ WS w6 X lab mine ∧ OpAt w6 lab tO T cap t ∧ Chg w w6 (fun z => lab z ≠ 0)) → Calls Try.prog 32 #[.pointer (some ⟨X.D k, 0, none⟩), .slice tO T cap] w6 fun e w7 => ∃ vo vc, e = .returned (.slice vo q vc) ∧ Bx w7 w.heap.size 4 who n (.slice tO T cap) bv ∧ Hid (w7.rowIs g5 3 (T + 64) (fun i => .int .i64 (mkd t T i)) ∧ RdA w7 (some ⟨g6, 0, none⟩) 1 q q (fun j => .int .i64 (bkF (L k) (pcL t X.S (T / X.S)) j : Nat)) ∧ RdA w7 vo 1 q vc (fun j => .int .i64 (bkF (L k) (pcL t X.S (T / X.S)) j : Nat)) ∧ OpAt w7 lab tO T cap t ∧ (∃ L' N', St w7 X lab L' N' num y mine (bd + 1)) ∧ Chg w w7 (fun z => lab z ≠ 0))) := fun w6 g6 q x6 A6 => by
    obtain ⟨b, o, hl, r5, r6, hg6, hps, hrs, hws, o6, ch6⟩ := A6
    have hwl := (h.ps.ca k hk).well
    refine (rs_find hrs hk hwl (h.inv.cut k hk) hNk o6.rd o6.off hl).mono ?_
    rintro e w7 ⟨vl, rfl, hown, hrs7, hch⟩
    have ch0 : Chg w6 w7 (fun z => lab z ≠ 0) := hch.imp (fun z _ e => by have e : lab z = 6 + k := e; omega)
    have lg6 := hlz g6 hg6
    obtain ⟨vo, vc, rfl, hrd⟩ := hown.rd
    have r6' := ch0.row r6 (fun e => e lg6)
    have hq : q ≤ maxLen := by have := hrd.le; have := hrd.top; omega
    refine ⟨vo, vc, rfl, x6.chg ch0 (fun e => e lb0), ch0.row r5 (fun e => e lg5), ⟨Nat.le_refl _, hq, fun _ => ⟨g6, 0, rfl, fun j hj => by rw [Nat.zero_add]; exact r6'.cell (by omega)⟩⟩, hrd, o6.chg ch0, ⟨_, _, hps.chg hch (fun z e => by have e : lab z = 6 + k := e; omega), hrs7, hws.chg hch (fun z e => by have e : lab z = 6 + k := e; omega), h.inv.step hk hZ ((h.inv.cut k hk).use _ _) ?_ (by have := h.inv.bN k hk; omega) (fun b => by rw [hs_use])⟩, ch6.trans ch0 (fun _ _ e => e)⟩
    refine Tie.use (h.inv.tie k hk) hwl.used (fun y hy => .inl hy)
  have HEQ : Hid (∀ w7 g6 q vo vc, Bx w7 w.heap.size 4 who n (.slice tO T cap) bv → Hid (w7.rowIs g5 3 (T + 64) (fun i => .int .i64 (mkd t T i)) ∧ RdA w7 (some ⟨g6, 0, none⟩) 1 q q (fun j => .int .i64 (bkF (L k) (pcL t X.S (T / X.S)) j : Nat)) ∧ RdA w7 vo 1 q vc (fun j => .int .i64 (bkF (L k) (pcL t X.S (T / X.S)) j : Nat)) ∧ OpAt w7 lab tO T cap t ∧ (∃ L' N', St w7 X lab L' N' num y mine (bd + 1)) ∧ Chg w w7 (fun z => lab z ≠ 0)) → Calls Try.prog 29 #[.slice (some ⟨g6, 0, none⟩) q q, .slice vo q vc] w7 fun e w8 => e = .returned (.bool true) ∧ Bx w8 w.heap.size 4 who n (.slice tO T cap) bv ∧ Hid (w8.rowIs g5 3 (T + 64) (fun i => .int .i64 (mkd t T i)) ∧ OpAt w8 lab tO T cap t ∧ (∃ L' N', St w8 X lab L' N' num y mine (bd + 1)) ∧ Chg w w8 (fun z => lab z ≠ 0))) := fun w7 g6 q vo vc x7 A7 => by
    obtain ⟨r5, ha, hb, o7, ⟨L', N', s7⟩, ch7⟩ := A7
    refine (eqInts_any (f := fun j => (bkF (L k) (pcL t X.S (T / X.S)) j : Nat)) (g := fun j => (bkF (L k) (pcL t X.S (T / X.S)) j : Nat)) ha hb).mono ?_
    rintro e w8 ⟨⟨r, rfl, hr⟩, f8⟩
    have : r = true := hr.2 ⟨rfl, fun _ _ => rfl⟩
    subst this
    exact ⟨rfl, x7.fresh f8, (Chg.of_below (fun _ => False) f8).row r5 id, o7.fresh f8, ⟨L', N', s7.fresh f8⟩, ch7.post f8⟩
  have HST : Hid (∀ w8, Hid (w8.rowIs g5 3 (T + 64) (fun i => .int .i64 (mkd t T i)) ∧ OpAt w8 lab tO T cap t ∧ (∃ L' N', St w8 X lab L' N' num y mine (bd + 1)) ∧ Chg w w8 (fun z => lab z ≠ 0)) → Calls Try.prog 54 #[.slice (some ⟨g5, 0, none⟩) T (T + 64), .slice tO T cap] w8 fun e w9 => e = .returned (.bool true) ∧ Hid ((∃ L' N', St w9 X lab L' N' num y mine (bd + 1)) ∧ Chg w w9 (fun z => lab z ≠ 0))) := fun w8 A8 => by
    obtain ⟨r5, o8, ⟨L', N', s8⟩, ch8⟩ := A8
    refine (still_any o8.rd r5 hTl).mono ?_
    rintro e w9 ⟨rfl, f9⟩
    exact ⟨rfl, ⟨L', N', s8.fresh f9⟩, ch8.post f9⟩
  obtain ⟨x0, x1, x2, x3, x4⟩ := hbx
  clear h ht Hb hlz hg5 fb c0 c3 c6 ck dk
  rcases hr with hr | ⟨hr, rfl⟩
  · have hkd : decide ((k : Int) < 0) = false := by simp
    have k0 : (0 : Int) ≤ (k : Int) := by omega
    have k1 : (k : Int) < 2 := by omega
    go_enter Try.func28, Try.ntmps28
    go_upto_region 1 with fail
    rw [← hwb]
    clear hwb
    go_wp2_with (first
      | (go_at_call 53; with_reducible refine HMK.out.mono ?_; rintro e w5 ⟨rfl, x5, A5⟩; have hx5 := hidd x5; obtain ⟨x50, x51, x52, x53, x54⟩ := x5.parts)
      | (go_at_call 11; with_reducible refine (HF1.out w5 hx5.out A5).mono ?_; rintro e w6 ⟨g6, q, rfl, x6, A6⟩; have hx6 := hidd x6; obtain ⟨x60, x61, x62, x63, x64⟩ := x6.parts)
      | (go_at_call 32; with_reducible refine (HF2.out w6 g6 q hx6.out A6).mono ?_; rintro e w7 ⟨vo, vc, rfl, x7, A7⟩; have hx7 := hidd x7; obtain ⟨x70, x71, x72, x73, x74⟩ := x7.parts)
      | (go_at_call 29; with_reducible refine (HEQ.out w7 g6 q vo vc hx7.out A7).mono ?_; rintro e w8 ⟨rfl, x8, A8⟩; obtain ⟨x80, x81, x82, x83, x84⟩ := x8.parts)
      | (go_at_call 54; with_reducible refine (HST.out w8 A8).mono ?_; rintro e w9 ⟨rfl, A9⟩))
    go_ret
    obtain ⟨⟨L', N', s9⟩, ch9⟩ := A9.out
    exact ⟨rfl, lab, L', N', num, y, mine, s9, fun _ _ => rfl, ch9⟩
  · go_enter Try.func28, Try.ntmps28
    go_upto_region 1 with fail
    rw [← hwb]
    clear hwb
    go_wp2_with (first
      | (go_at_call 53; with_reducible refine HMK.out.mono ?_; rintro e w5 ⟨rfl, x5, A5⟩; have hx5 := hidd x5; obtain ⟨x50, x51, x52, x53, x54⟩ := x5.parts)
      | (go_at_call 11; with_reducible refine (HF1.out w5 hx5.out A5).mono ?_; rintro e w6 ⟨g6, q, rfl, x6, A6⟩; have hx6 := hidd x6; obtain ⟨x60, x61, x62, x63, x64⟩ := x6.parts)
      | (go_at_call 32; with_reducible refine (HF2.out w6 g6 q hx6.out A6).mono ?_; rintro e w7 ⟨vo, vc, rfl, x7, A7⟩; have hx7 := hidd x7; obtain ⟨x70, x71, x72, x73, x74⟩ := x7.parts)
      | (go_at_call 29; with_reducible refine (HEQ.out w7 g6 q vo vc hx7.out A7).mono ?_; rintro e w8 ⟨rfl, x8, A8⟩; obtain ⟨x80, x81, x82, x83, x84⟩ := x8.parts)
      | (go_at_call 54; with_reducible refine (HST.out w8 A8).mono ?_; rintro e w9 ⟨rfl, A9⟩))
    go_ret
    obtain ⟨⟨L', N', s9⟩, ch9⟩ := A9.out
    exact ⟨rfl, lab, L', N', num, y, mine, s9, fun _ _ => rfl, ch9⟩
end Go.Proofs.Ytaalinlggjimcaa
namespace Go.Proofs.Ytaalinlggjimcaa
open Go.RowKit
/-! step: Keep. -/
theorem Long.exists {C : Nat} {L : List Nd} (P : List (List Int)) : ∃ k b o, Long C L P k b o := by
  have key : ∀ n, n ≤ P.length → (∀ j, n < j → j ≤ P.length → ∀ x ∈ L, x.path ≠ P.take j) → ∃ k b o, Long C L P k b o := by
    intro n
    induction n with
    | zero => exact fun h hno => ⟨0, C, 2, h, .inl ⟨by simp, rfl, rfl⟩, hno⟩
    | succ n ih =>
      intro h hno
      by_cases e : ∃ x ∈ L, x.path = P.take (n + 1)
      · obtain ⟨x, hx, e⟩ := e
        exact ⟨n + 1, x.at_, 0, h, .inr ⟨x, hx, e, rfl, rfl⟩, hno⟩
      · refine ih (by omega) (fun j h1 h2 x hx e2 => ?_)
        by_cases q : j = n + 1
        · subst q; exact e ⟨x, hx, e2⟩
        · exact hno j (by omega) h2 x hx e2
  exact key P.length (Nat.le_refl _) (fun j h1 h2 => by omega)
theorem mkd_rd {w : World} {g n : Nat} {f : Nat → Int} (hr : w.rowIs g 3 (n + 64) (fun i => .int .i64 (mkd f n i))) (hn : n ≤ 2147483647) : RdA w (some ⟨g, 0, none⟩) 1 n (n + 64) (fun i => .int .i64 (f i)) :=
  ⟨by omega, by unfold maxLen; omega, fun _ => ⟨g, 0, rfl, fun j hj => by
    have := hr.cell (i := j) (by omega)
    rw [Nat.zero_add, this]
    unfold mkd
    rw [if_pos (by omega)]⟩⟩
set_option maxRecDepth 20000 in
set_option maxHeartbeats 3200000 in
theorem step_keep {w : World} {X : Wx} {lab : Nat → Nat} {L : Nat → List Nd} {N : Nat → Nat} {num : Nat → Int} {y : Ry} {mine : Nat → Nat} {bd : Nat} (h : St w X lab L N num y mine bd) (hbd : bd ≤ 1099511627776) {tO : Option Addr} {T cap : Nat} {t : Nat → Int} (ht : OpAt w lab tO T cap t) {bO : Option Addr} {m bcap : Nat} {g : Nat → Int} (hb : OpAt w lab bO m bcap g) (n who : Int) {k : Nat} (hk : k < 2) (hr : who.tmod 2 = (k : Int) ∨ (who.tmod 2 = -1 ∧ k = 1)) (hZ : X.Z k) :
    Calls Try.prog 28 #[.pointer (some ⟨X.wd, 0, none⟩), .agg #[.int .i64 5, .int .i64 who, .slice tO T cap, .slice bO m bcap, .int .i64 n]] w (StepP w X lab bd) := by
  have hNk : N k ≤ 4611686018427387904 := by have := h.inv.bN k hk; omega
  have hcnt : ∀ b, y.cnt b ≤ 1152921504606846976 := fun b => by have := h.inv.cnt b; omega
  have hTl := ht.le
  have hml := hb.le
  obtain ⟨wb, hwb⟩ : ∃ wb, wb = w.alloc (.cells #[.int .i64 5, .int .i64 who, .slice tO T cap, .slice bO m bcap, .int .i64 n] 56) := ⟨_, rfl⟩
  have fb : Below w.heap.size w wb := by rw [hwb]; exact fresh_alloc _ _
  have hbx : Bx wb w.heap.size 5 who n (.slice tO T cap) (.slice bO m bcap) := by rw [hwb]; exact Bx.new _ _ _ _ _ _
  have Hb := h.fresh fb
  have lb0 : lab w.heap.size = 0 := Classical.not_not.1 (fun e => absurd (h.ws.low _ e) (Nat.lt_irrefl _))
  have hlz : ∀ z, w.heap.size ≤ z → lab z = 0 := fun z hz => Classical.not_not.1 (fun e => absurd (h.ws.low _ e) (by omega))
  obtain ⟨c0, ck, c3, dk, c6⟩ := PS.cells Hb.ws
  have ckk := ck k hk
  have dkk := dk k hk
  obtain ⟨q, b0, o0, hl⟩ := Long.exists (C := (X.c k).C) (L := L k) (pcL t X.S (T / X.S))
  have hwl := (h.ps.ca k hk).well
  obtain ⟨g5, hg5⟩ : ∃ g5, g5 = wb.heap.size := ⟨_, rfl⟩
  have hg5w : w.heap.size < g5 := by rw [hg5, hwb]; simp
  have lg5 := hlz g5 (by omega)
  have HMK : Hid (Calls Try.prog 53 #[.slice tO T cap] wb fun e w5 => e = .returned (.slice (some ⟨g5, 0, none⟩) T (T + 64)) ∧ Bx w5 w.heap.size 5 who n (.slice tO T cap) (.slice bO m bcap) ∧ Hid (w5.rowIs g5 3 (T + 64) (fun i => .int .i64 (mkd t T i)) ∧ St w5 X lab L N num y mine bd ∧ OpAt w5 lab tO T cap t ∧ OpAt w5 lab bO m bcap g ∧ Below w.heap.size w w5)) := by
    refine (marked_any (ht.fresh fb).rd hTl).mono ?_
    rintro e w5 ⟨rfl, h1, h2⟩
    rw [hg5]
    exact ⟨rfl, hbx.fresh h2, h1, Hb.fresh h2, (ht.fresh fb).fresh h2, (hb.fresh fb).fresh h2, fb.trans (h2.mono fb.size)⟩
  have HM2 : Hid (∀ w5, Bx w5 w.heap.size 5 who n (.slice tO T cap) (.slice bO m bcap) → Hid (w5.rowIs g5 3 (T + 64) (fun i => .int .i64 (mkd t T i)) ∧ St w5 X lab L N num y mine bd ∧ OpAt w5 lab tO T cap t ∧ OpAt w5 lab bO m bcap g ∧ Below w.heap.size w w5) → Calls Try.prog 53 #[.slice bO m bcap] w5 fun e w6 => ∃ g6, e = .returned (.slice (some ⟨g6, 0, none⟩) m (m + 64)) ∧ Bx w6 w.heap.size 5 who n (.slice tO T cap) (.slice bO m bcap) ∧ Hid (w6.rowIs g5 3 (T + 64) (fun i => .int .i64 (mkd t T i)) ∧ w6.rowIs g6 3 (m + 64) (fun i => .int .i64 (mkd g m i)) ∧ w.heap.size ≤ g6 ∧ St w6 X lab L N num y mine bd ∧ OpAt w6 lab tO T cap t ∧ OpAt w6 lab bO m bcap g ∧ Below w.heap.size w w6)) := fun w5 x5 A5 => by
    obtain ⟨r5, s5, o5, p5, f5⟩ := A5
    refine (marked_any p5.rd hml).mono ?_
    rintro e w6 ⟨rfl, h1, h2⟩
    exact ⟨w5.heap.size, rfl, x5.fresh h2, (Chg.of_below (fun _ => False) h2).row r5 id, h1, f5.size, s5.fresh h2, o5.fresh h2, p5.fresh h2, f5.trans (h2.mono f5.size)⟩
  by_cases hbad : BadK (L k) y.cnt X.B g m (T / X.S) q
  · have HK1 : Hid (∀ w6 g6, Bx w6 w.heap.size 5 who n (.slice tO T cap) (.slice bO m bcap) → Hid (w6.rowIs g5 3 (T + 64) (fun i => .int .i64 (mkd t T i)) ∧ w6.rowIs g6 3 (m + 64) (fun i => .int .i64 (mkd g m i)) ∧ w.heap.size ≤ g6 ∧ St w6 X lab L N num y mine bd ∧ OpAt w6 lab tO T cap t ∧ OpAt w6 lab bO m bcap g ∧ Below w.heap.size w w6) → Calls Try.prog 12 #[.pointer (some ⟨(X.c k).C, 0, none⟩), .slice (some ⟨g5, 0, none⟩) T (T + 64), .slice (some ⟨g6, 0, none⟩) m (m + 64)] w6 fun e w7 => e = .returned (.int .i64 61) ∧ Bx w7 w.heap.size 5 who n (.slice tO T cap) (.slice bO m bcap) ∧ Hid (w7.rowIs g5 3 (T + 64) (fun i => .int .i64 (mkd t T i)) ∧ w7.rowIs g6 3 (m + 64) (fun i => .int .i64 (mkd g m i)) ∧ St w7 X lab L N num y mine bd ∧ OpAt w7 lab tO T cap t ∧ OpAt w7 lab bO m bcap g ∧ Below w.heap.size w w7)) := fun w6 g6 x6 A6 => by
      obtain ⟨r5, r6, hg6, s6, o6, p6, f6⟩ := A6
      refine (ps_keep s6.ps s6.ws.low hk hNk (mkd_rd r5 hTl) o6.fit (mkd_rd r6 hml) (by omega) (hlz g6 hg6) hcnt rfl hl).mono ?_
      rintro e w7 (⟨rfl, _, f7⟩ | ⟨_, hnb, _⟩)
      · have k7 := Chg.of_below (fun _ => False) f7
        exact ⟨rfl, x6.fresh f7, k7.row r5 id, k7.row r6 id, s6.fresh f7, o6.fresh f7, p6.fresh f7, f6.trans (f7.mono f6.size)⟩
      · exact absurd hbad hnb
    have HK2 : Hid (∀ w7 g6, Bx w7 w.heap.size 5 who n (.slice tO T cap) (.slice bO m bcap) → Hid (w7.rowIs g5 3 (T + 64) (fun i => .int .i64 (mkd t T i)) ∧ w7.rowIs g6 3 (m + 64) (fun i => .int .i64 (mkd g m i)) ∧ St w7 X lab L N num y mine bd ∧ OpAt w7 lab tO T cap t ∧ OpAt w7 lab bO m bcap g ∧ Below w.heap.size w w7) → Calls Try.prog 30 #[.pointer (some ⟨X.D k, 0, none⟩), .slice tO T cap, .slice bO m bcap] w7 fun e w8 => e = .returned (.int .i64 61) ∧ Bx w8 w.heap.size 5 who n (.slice tO T cap) (.slice bO m bcap) ∧ Hid (w8.rowIs g5 3 (T + 64) (fun i => .int .i64 (mkd t T i)) ∧ w8.rowIs g6 3 (m + 64) (fun i => .int .i64 (mkd g m i)) ∧ (∃ lab' L' N' y', St w8 X lab' L' N' num y' mine (bd + 1) ∧ ∀ z, z < w.heap.size → lab' z = lab z) ∧ RdA w8 tO 1 T cap (fun i => .int .i64 (t i)) ∧ RdA w8 bO 1 m bcap (fun i => .int .i64 (g i)) ∧ Chg w w8 (fun z => lab z ≠ 0))) := fun w7 g6 x7 A7 => by
      obtain ⟨r5, r6, s7, o7, p7, f7⟩ := A7
      refine (rs_keep s7.rs s7.ws.low hk hwl (h.ps.cc k hk).2.2 (h.inv.cut k hk) hNk o7.rd o7.off o7.le p7.rd p7.off hcnt rfl hl).mono ?_
      rintro e w8 (⟨rfl, _, f8⟩ | ⟨_, hnb, _⟩)
      · have k8 := Chg.of_below (fun _ => False) f8
        have s8 := s7.fresh f8
        exact ⟨rfl, x7.fresh f8, k8.row r5 id, k8.row r6 id, ⟨lab, L, N, y, ⟨s8.ps, s8.rs, s8.ws, s8.inv.more⟩, fun _ _ => rfl⟩, (o7.fresh f8).rd, (p7.fresh f8).rd, Chg.of_below _ (f7.trans (f8.mono f7.size))⟩
      · exact absurd hbad hnb
    have HS1 : Hid (∀ w8 g6, Hid (w8.rowIs g5 3 (T + 64) (fun i => .int .i64 (mkd t T i)) ∧ w8.rowIs g6 3 (m + 64) (fun i => .int .i64 (mkd g m i)) ∧ (∃ lab' L' N' y', St w8 X lab' L' N' num y' mine (bd + 1) ∧ ∀ z, z < w.heap.size → lab' z = lab z) ∧ RdA w8 tO 1 T cap (fun i => .int .i64 (t i)) ∧ RdA w8 bO 1 m bcap (fun i => .int .i64 (g i)) ∧ Chg w w8 (fun z => lab z ≠ 0)) → Bx w8 w.heap.size 5 who n (.slice tO T cap) (.slice bO m bcap) → Calls Try.prog 54 #[.slice (some ⟨g5, 0, none⟩) T (T + 64), .slice tO T cap] w8 fun e w9 => e = .returned (.bool true) ∧ Bx w9 w.heap.size 5 who n (.slice tO T cap) (.slice bO m bcap) ∧ Hid (w9.rowIs g6 3 (m + 64) (fun i => .int .i64 (mkd g m i)) ∧ (∃ lab' L' N' y', St w9 X lab' L' N' num y' mine (bd + 1) ∧ ∀ z, z < w.heap.size → lab' z = lab z) ∧ RdA w9 bO 1 m bcap (fun i => .int .i64 (g i)) ∧ Chg w w9 (fun z => lab z ≠ 0))) := fun w8 g6 A8 x8 => by
      obtain ⟨r5, r6, ⟨lab', L', N', y', s8, ho⟩, o8, p8, ch8⟩ := A8
      refine (still_any o8 r5 hTl).mono ?_
      rintro e w9 ⟨rfl, f9⟩
      exact ⟨rfl, x8.fresh f9, (Chg.of_below (fun _ => False) f9).row r6 id, ⟨lab', L', N', y', s8.fresh f9, ho⟩, p8.fresh f9, ch8.post f9⟩
    have HS2 : Hid (∀ w9 g6, Hid (w9.rowIs g6 3 (m + 64) (fun i => .int .i64 (mkd g m i)) ∧ (∃ lab' L' N' y', St w9 X lab' L' N' num y' mine (bd + 1) ∧ ∀ z, z < w.heap.size → lab' z = lab z) ∧ RdA w9 bO 1 m bcap (fun i => .int .i64 (g i)) ∧ Chg w w9 (fun z => lab z ≠ 0)) → Calls Try.prog 54 #[.slice (some ⟨g6, 0, none⟩) m (m + 64), .slice bO m bcap] w9 fun e w10 => e = .returned (.bool true) ∧ Hid ((∃ lab' L' N' y', St w10 X lab' L' N' num y' mine (bd + 1) ∧ ∀ z, z < w.heap.size → lab' z = lab z) ∧ Chg w w10 (fun z => lab z ≠ 0))) := fun w9 g6 A9 => by
      obtain ⟨r6, ⟨lab', L', N', y', s9, ho⟩, p9, ch9⟩ := A9
      refine (still_any p9 r6 hml).mono ?_
      rintro e w10 ⟨rfl, f10⟩
      exact ⟨rfl, ⟨lab', L', N', y', s9.fresh f10, ho⟩, ch9.post f10⟩
    obtain ⟨x0, x1, x2, x3, x4⟩ := hbx
    clear h ht hb Hb hlz hg5 fb c0 c3 c6 ck dk hl hwl
    rcases hr with hr | ⟨hr, rfl⟩
    · have hkd : decide ((k : Int) < 0) = false := by simp
      have k0 : (0 : Int) ≤ (k : Int) := by omega
      have k1 : (k : Int) < 2 := by omega
      go_enter Try.func28, Try.ntmps28
      go_upto_region 1 with fail
      rw [← hwb]
      clear hwb
      go_wp2_with (first
        | (go_at_call 53; with_reducible refine HMK.out.mono ?_; rintro e w5 ⟨rfl, x5, A5⟩; have hx5 := hidd x5; obtain ⟨x50, x51, x52, x53, x54⟩ := x5.parts)
        | (go_at_call 53; with_reducible refine (HM2.out w5 hx5.out A5).mono ?_; rintro e w6 ⟨g6, rfl, x6, A6⟩; have hx6 := hidd x6; obtain ⟨x60, x61, x62, x63, x64⟩ := x6.parts)
        | (go_at_call 12; with_reducible refine (HK1.out w6 g6 hx6.out A6).mono ?_; rintro e w7 ⟨rfl, x7, A7⟩; have hx7 := hidd x7; obtain ⟨x70, x71, x72, x73, x74⟩ := x7.parts)
        | (go_at_call 30; with_reducible refine (HK2.out w7 g6 hx7.out A7).mono ?_; rintro e w8 ⟨rfl, x8, A8⟩; have hx8 := hidd x8; obtain ⟨x80, x81, x82, x83, x84⟩ := x8.parts)
        | (go_at_call 54; with_reducible refine (HS1.out w8 g6 A8 hx8.out).mono ?_; rintro e w9 ⟨rfl, x9, A9⟩; obtain ⟨x90, x91, x92, x93, x94⟩ := x9.parts)
        | (go_at_call 54; with_reducible refine (HS2.out w9 g6 A9).mono ?_; rintro e w10 ⟨rfl, A10⟩))
      go_ret
      obtain ⟨⟨lab', L', N', y', s10, ho⟩, ch10⟩ := A10.out
      exact ⟨rfl, lab', L', N', num, y', mine, s10, ho, ch10⟩
    · go_enter Try.func28, Try.ntmps28
      go_upto_region 1 with fail
      rw [← hwb]
      clear hwb
      go_wp2_with (first
        | (go_at_call 53; with_reducible refine HMK.out.mono ?_; rintro e w5 ⟨rfl, x5, A5⟩; have hx5 := hidd x5; obtain ⟨x50, x51, x52, x53, x54⟩ := x5.parts)
        | (go_at_call 53; with_reducible refine (HM2.out w5 hx5.out A5).mono ?_; rintro e w6 ⟨g6, rfl, x6, A6⟩; have hx6 := hidd x6; obtain ⟨x60, x61, x62, x63, x64⟩ := x6.parts)
        | (go_at_call 12; with_reducible refine (HK1.out w6 g6 hx6.out A6).mono ?_; rintro e w7 ⟨rfl, x7, A7⟩; have hx7 := hidd x7; obtain ⟨x70, x71, x72, x73, x74⟩ := x7.parts)
        | (go_at_call 30; with_reducible refine (HK2.out w7 g6 hx7.out A7).mono ?_; rintro e w8 ⟨rfl, x8, A8⟩; have hx8 := hidd x8; obtain ⟨x80, x81, x82, x83, x84⟩ := x8.parts)
        | (go_at_call 54; with_reducible refine (HS1.out w8 g6 A8 hx8.out).mono ?_; rintro e w9 ⟨rfl, x9, A9⟩; obtain ⟨x90, x91, x92, x93, x94⟩ := x9.parts)
        | (go_at_call 54; with_reducible refine (HS2.out w9 g6 A9).mono ?_; rintro e w10 ⟨rfl, A10⟩))
      go_ret
      obtain ⟨⟨lab', L', N', y', s10, ho⟩, ch10⟩ := A10.out
      exact ⟨rfl, lab', L', N', num, y', mine, s10, ho, ch10⟩
  · have hnob : Nobodys (L k) (fun i => (g (q + i)).toNat) (T / X.S - q) := by
      have hz : ∀ i, i < T / X.S → cntI y.cnt X.B (g i) ≠ 0 := fun i hi e => hbad (.inr (.inl ⟨i, hi, e⟩))
      have hg : ∀ i, i < T / X.S → g i = ((g i).toNat : Int) := fun i hi => by
        have := hz i hi
        unfold cntI at this
        by_cases e : 0 ≤ g i ∧ g i < X.B
        · omega
        · rw [if_neg e] at this
          exact absurd rfl this
      refine ⟨fun i hi z hz e => hbad (.inr (.inr ⟨q + i, by omega, by omega, .inl ⟨z, hz, ?_⟩⟩)), fun i j h1 h2 e => hbad (.inr (.inr ⟨q + i, by omega, by omega, .inr ⟨q + j, by omega, by omega, ?_⟩⟩))⟩
      · have e : z.blk = (g (q + i)).toNat := e
        rw [hg (q + i) (by omega), e]
      · have e : (g (q + i)).toNat = (g (q + j)).toNat := e
        rw [hg (q + i) (by omega), hg (q + j) (by omega), e]
    have hqn : q ≤ T / X.S := by have := hl.le; rw [pcL_len] at this; exact this
    have HK1 : Hid (∀ w6 g6, Bx w6 w.heap.size 5 who n (.slice tO T cap) (.slice bO m bcap) → Hid (w6.rowIs g5 3 (T + 64) (fun i => .int .i64 (mkd t T i)) ∧ w6.rowIs g6 3 (m + 64) (fun i => .int .i64 (mkd g m i)) ∧ w.heap.size ≤ g6 ∧ St w6 X lab L N num y mine bd ∧ OpAt w6 lab tO T cap t ∧ OpAt w6 lab bO m bcap g ∧ Below w.heap.size w w6) → Calls Try.prog 12 #[.pointer (some ⟨(X.c k).C, 0, none⟩), .slice (some ⟨g5, 0, none⟩) T (T + 64), .slice (some ⟨g6, 0, none⟩) m (m + 64)] w6 fun e w7 => e = .returned (.int .i64 0) ∧ Bx w7 w.heap.size 5 who n (.slice tO T cap) (.slice bO m bcap) ∧ Hid (∃ lab1 L1 news, Ext (L k) (pcL t X.S (T / X.S)) (fun i => (g i).toNat) q (T / X.S - q) L1 news ∧ PS w7 X lab1 (setF L k (useL L1 (pcL t X.S (T / X.S)) (N k + 1))) (setF N k (N k + 1)) (addC y.cnt (fun i => (g i).toNat) q (T / X.S - q)) num ∧ RS w7 X lab1 L N y ∧ WS w7 X lab1 mine ∧ w7.rowIs g5 3 (T + 64) (fun i => .int .i64 (mkd t T i)) ∧ w7.rowIs g6 3 (m + 64) (fun i => .int .i64 (mkd g m i)) ∧ OpAt w7 lab1 tO T cap t ∧ OpAt w7 lab1 bO m bcap g ∧ (∀ z, z < w.heap.size → lab1 z = lab z) ∧ (lab1 w.heap.size = 0 ∧ lab1 g5 = 0 ∧ lab1 g6 = 0) ∧ Chg w w7 (fun z => lab z ≠ 0))) := fun w6 g6 x6 A6 => by
      obtain ⟨r5, r6, hg6, s6, o6, p6, f6⟩ := A6
      have lg6 := hlz g6 hg6
      refine (ps_keep s6.ps s6.ws.low hk hNk (mkd_rd r5 hTl) o6.fit (mkd_rd r6 hml) (by omega) lg6 hcnt rfl hl).mono ?_
      rintro e w7 (⟨_, hb7, _⟩ | ⟨rfl, _, lab1, L1, news, hE, hps, hlab, hch⟩)
      · exact absurd hb7 hbad
      · have lcb := s6.ps.lp.2.1
        have ch0 : Chg w6 w7 (fun z => lab z ≠ 0) := hch.imp (fun z _ e => by
          rcases e with e | e
          · omega
          · rw [e]; omega)
        have hw7 : ∀ z, (lab z = 3 + k ∨ z = X.cb) → 2 ≤ lab z ∧ lab z ≤ 4 := fun z e => by
          rcases e with e | e
          · omega
          · rw [e]; omega
        have rs7 := (s6.rs.chg hch (fun z e => by have := hw7 z e; omega)).relab (lab' := lab1) (fun u h1 h2 => hlab.other u (by omega) (by omega))
        have ws7 := (s6.ws.chg hch (fun z e => by have := hw7 z e; omega)).relab (lab' := lab1) (hlab.other 1 (by omega) (by omega)) hlab.low
        have hsz := f6.size
        have o7 := o6.chg ch0
        have p7 := p6.chg ch0
        refine ⟨rfl, x6.chg ch0 (fun e => e lb0), lab1, L1, news, hE, hps, rs7, ws7, ch0.row r5 (fun e => e lg5), ch0.row r6 (fun e => e lg6), ⟨o7.rd, o7.fit, fun h0 b o eq => ?_, o7.le⟩, ⟨p7.rd, p7.fit, fun h0 b o eq => ?_, p7.le⟩, fun z hz => hlab.old z (by omega), ⟨?_, ?_, ?_⟩, (Chg.of_below _ f6).trans ch0 (fun _ _ e => e)⟩
        · obtain ⟨b1, o1, e1, hc⟩ := o6.rd.at_ h0
          rw [eq] at e1
          injection e1 with e1
          injection e1 with e1 _
          subst e1
          rw [hlab.old b (lt_of_cell (hc 0 (by omega)))]
          exact o6.off h0 b o eq
        · obtain ⟨b1, o1, e1, hc⟩ := p6.rd.at_ h0
          rw [eq] at e1
          injection e1 with e1
          injection e1 with e1 _
          subst e1
          rw [hlab.old b (lt_of_cell (hc 0 (by omega)))]
          exact p6.off h0 b o eq
        · rw [hlab.old _ (lt_of_cell x6.1)]; exact lb0
        · rw [hlab.old _ r5.lt]; exact lg5
        · rw [hlab.old _ r6.lt]; exact lg6
    have HK2 : Hid (∀ w7 g6, Bx w7 w.heap.size 5 who n (.slice tO T cap) (.slice bO m bcap) → Hid (∃ lab1 L1 news, Ext (L k) (pcL t X.S (T / X.S)) (fun i => (g i).toNat) q (T / X.S - q) L1 news ∧ PS w7 X lab1 (setF L k (useL L1 (pcL t X.S (T / X.S)) (N k + 1))) (setF N k (N k + 1)) (addC y.cnt (fun i => (g i).toNat) q (T / X.S - q)) num ∧ RS w7 X lab1 L N y ∧ WS w7 X lab1 mine ∧ w7.rowIs g5 3 (T + 64) (fun i => .int .i64 (mkd t T i)) ∧ w7.rowIs g6 3 (m + 64) (fun i => .int .i64 (mkd g m i)) ∧ OpAt w7 lab1 tO T cap t ∧ OpAt w7 lab1 bO m bcap g ∧ (∀ z, z < w.heap.size → lab1 z = lab z) ∧ (lab1 w.heap.size = 0 ∧ lab1 g5 = 0 ∧ lab1 g6 = 0) ∧ Chg w w7 (fun z => lab z ≠ 0)) → Calls Try.prog 30 #[.pointer (some ⟨X.D k, 0, none⟩), .slice tO T cap, .slice bO m bcap] w7 fun e w8 => e = .returned (.int .i64 0) ∧ Bx w8 w.heap.size 5 who n (.slice tO T cap) (.slice bO m bcap) ∧ Hid (w8.rowIs g5 3 (T + 64) (fun i => .int .i64 (mkd t T i)) ∧ w8.rowIs g6 3 (m + 64) (fun i => .int .i64 (mkd g m i)) ∧ (∃ lab' L' N' y', St w8 X lab' L' N' num y' mine (bd + 1) ∧ ∀ z, z < w.heap.size → lab' z = lab z) ∧ RdA w8 tO 1 T cap (fun i => .int .i64 (t i)) ∧ RdA w8 bO 1 m bcap (fun i => .int .i64 (g i)) ∧ Chg w w8 (fun z => lab z ≠ 0))) := fun w7 g6 x7 A7 => by
      obtain ⟨lab1, L1, news, hE, hps, hrs, hws, r5, r6, o7, p7, hold, ⟨z0, z5, z6⟩, ch7⟩ := A7
      refine (rs_keep hrs hws.low hk hwl (h.ps.cc k hk).2.2 (h.inv.cut k hk) hNk o7.rd o7.off o7.le p7.rd p7.off hcnt rfl hl).mono ?_
      rintro e w8 (⟨_, hb8, _⟩ | ⟨rfl, _, lab2, hrs8, hlab, hch⟩)
      · exact absurd hb8 hbad
      · have lcb := hrs.lr.2.1
        have hw8 : ∀ z, (lab1 z = 6 + k ∨ z = X.x.cb) → 5 ≤ lab1 z ∧ lab1 z ≤ 7 := fun z e => by
          rcases e with e | e
          · omega
          · rw [e]; omega
        have ch0 : Chg w7 w8 (fun z => lab1 z ≠ 0) := hch.imp (fun z _ e => by have := hw8 z e; omega)
        have ps8 := (hps.chg hch (fun z e => by have := hw8 z e; omega)).relab (lab' := lab2) (fun u h1 h2 => hlab.other u (by omega) (by omega))
        have ws8 := (hws.chg hch (fun z e => by have := hw8 z e; omega)).relab (lab' := lab2) (hlab.other 1 (by omega) (by omega)) hlab.low
        have hsz : w.heap.size ≤ w7.heap.size := ch7.size
        refine ⟨rfl, x7.chg ch0 (fun e => e z0), ch0.row r5 (fun e => e z5), ch0.row r6 (fun e => e z6), ⟨lab2, _, _, _, ⟨ps8, hrs8 L1 news hE, ws8, ?_⟩, fun z hz => (hlab.old z (by omega)).trans (hold z hz)⟩, (o7.chg ch0).rd, (p7.chg ch0).rd, ch7.trans ch0 (fun z hz e => by rw [← hold z hz]; exact e)⟩
        refine h.inv.step hk hZ (((h.inv.cut k hk).ext hE (by omega)).use _ _) (Tie.use (h.inv.tie k hk) hwl.used (fun z hz => ?_)) (by have := h.inv.bN k hk; omega) (fun b => by rw [hs_use]; exact ext_bal hE hnob y.cnt b)
        rcases hE.mem hz with e | ⟨i, hi, e, _⟩
        · exact .inl e
        · refine .inr ⟨?_, ?_⟩
          · rw [e, List.length_take, pcL_len, Nat.min_eq_left (by omega)]
          · rw [e, List.length_take, pcL_len]; omega
    have HS1 : Hid (∀ w8 g6, Hid (w8.rowIs g5 3 (T + 64) (fun i => .int .i64 (mkd t T i)) ∧ w8.rowIs g6 3 (m + 64) (fun i => .int .i64 (mkd g m i)) ∧ (∃ lab' L' N' y', St w8 X lab' L' N' num y' mine (bd + 1) ∧ ∀ z, z < w.heap.size → lab' z = lab z) ∧ RdA w8 tO 1 T cap (fun i => .int .i64 (t i)) ∧ RdA w8 bO 1 m bcap (fun i => .int .i64 (g i)) ∧ Chg w w8 (fun z => lab z ≠ 0)) → Bx w8 w.heap.size 5 who n (.slice tO T cap) (.slice bO m bcap) → Calls Try.prog 54 #[.slice (some ⟨g5, 0, none⟩) T (T + 64), .slice tO T cap] w8 fun e w9 => e = .returned (.bool true) ∧ Bx w9 w.heap.size 5 who n (.slice tO T cap) (.slice bO m bcap) ∧ Hid (w9.rowIs g6 3 (m + 64) (fun i => .int .i64 (mkd g m i)) ∧ (∃ lab' L' N' y', St w9 X lab' L' N' num y' mine (bd + 1) ∧ ∀ z, z < w.heap.size → lab' z = lab z) ∧ RdA w9 bO 1 m bcap (fun i => .int .i64 (g i)) ∧ Chg w w9 (fun z => lab z ≠ 0))) := fun w8 g6 A8 x8 => by
      obtain ⟨r5, r6, ⟨lab', L', N', y', s8, ho⟩, o8, p8, ch8⟩ := A8
      refine (still_any o8 r5 hTl).mono ?_
      rintro e w9 ⟨rfl, f9⟩
      exact ⟨rfl, x8.fresh f9, (Chg.of_below (fun _ => False) f9).row r6 id, ⟨lab', L', N', y', s8.fresh f9, ho⟩, p8.fresh f9, ch8.post f9⟩
    have HS2 : Hid (∀ w9 g6, Hid (w9.rowIs g6 3 (m + 64) (fun i => .int .i64 (mkd g m i)) ∧ (∃ lab' L' N' y', St w9 X lab' L' N' num y' mine (bd + 1) ∧ ∀ z, z < w.heap.size → lab' z = lab z) ∧ RdA w9 bO 1 m bcap (fun i => .int .i64 (g i)) ∧ Chg w w9 (fun z => lab z ≠ 0)) → Calls Try.prog 54 #[.slice (some ⟨g6, 0, none⟩) m (m + 64), .slice bO m bcap] w9 fun e w10 => e = .returned (.bool true) ∧ Hid ((∃ lab' L' N' y', St w10 X lab' L' N' num y' mine (bd + 1) ∧ ∀ z, z < w.heap.size → lab' z = lab z) ∧ Chg w w10 (fun z => lab z ≠ 0))) := fun w9 g6 A9 => by
      obtain ⟨r6, ⟨lab', L', N', y', s9, ho⟩, p9, ch9⟩ := A9
      refine (still_any p9 r6 hml).mono ?_
      rintro e w10 ⟨rfl, f10⟩
      exact ⟨rfl, ⟨lab', L', N', y', s9.fresh f10, ho⟩, ch9.post f10⟩
    obtain ⟨x0, x1, x2, x3, x4⟩ := hbx
    clear h ht hb Hb hlz hg5 fb c0 c3 c6 ck dk hl hwl
    rcases hr with hr | ⟨hr, rfl⟩
    · have hkd : decide ((k : Int) < 0) = false := by simp
      have k0 : (0 : Int) ≤ (k : Int) := by omega
      have k1 : (k : Int) < 2 := by omega
      go_enter Try.func28, Try.ntmps28
      go_upto_region 1 with fail
      rw [← hwb]
      clear hwb
      go_wp2_with (first
        | (go_at_call 53; with_reducible refine HMK.out.mono ?_; rintro e w5 ⟨rfl, x5, A5⟩; have hx5 := hidd x5; obtain ⟨x50, x51, x52, x53, x54⟩ := x5.parts)
        | (go_at_call 53; with_reducible refine (HM2.out w5 hx5.out A5).mono ?_; rintro e w6 ⟨g6, rfl, x6, A6⟩; have hx6 := hidd x6; obtain ⟨x60, x61, x62, x63, x64⟩ := x6.parts)
        | (go_at_call 12; with_reducible refine (HK1.out w6 g6 hx6.out A6).mono ?_; rintro e w7 ⟨rfl, x7, A7⟩; have hx7 := hidd x7; obtain ⟨x70, x71, x72, x73, x74⟩ := x7.parts)
        | (go_at_call 30; with_reducible refine (HK2.out w7 g6 hx7.out A7).mono ?_; rintro e w8 ⟨rfl, x8, A8⟩; have hx8 := hidd x8; obtain ⟨x80, x81, x82, x83, x84⟩ := x8.parts)
        | (go_at_call 54; with_reducible refine (HS1.out w8 g6 A8 hx8.out).mono ?_; rintro e w9 ⟨rfl, x9, A9⟩; obtain ⟨x90, x91, x92, x93, x94⟩ := x9.parts)
        | (go_at_call 54; with_reducible refine (HS2.out w9 g6 A9).mono ?_; rintro e w10 ⟨rfl, A10⟩))
      go_ret
      obtain ⟨⟨lab', L', N', y', s10, ho⟩, ch10⟩ := A10.out
      exact ⟨rfl, lab', L', N', num, y', mine, s10, ho, ch10⟩
    · go_enter Try.func28, Try.ntmps28
      go_upto_region 1 with fail
      rw [← hwb]
      clear hwb
      go_wp2_with (first
        | (go_at_call 53; with_reducible refine HMK.out.mono ?_; rintro e w5 ⟨rfl, x5, A5⟩; have hx5 := hidd x5; obtain ⟨x50, x51, x52, x53, x54⟩ := x5.parts)
        | (go_at_call 53; with_reducible refine (HM2.out w5 hx5.out A5).mono ?_; rintro e w6 ⟨g6, rfl, x6, A6⟩; have hx6 := hidd x6; obtain ⟨x60, x61, x62, x63, x64⟩ := x6.parts)
        | (go_at_call 12; with_reducible refine (HK1.out w6 g6 hx6.out A6).mono ?_; rintro e w7 ⟨rfl, x7, A7⟩; have hx7 := hidd x7; obtain ⟨x70, x71, x72, x73, x74⟩ := x7.parts)
        | (go_at_call 30; with_reducible refine (HK2.out w7 g6 hx7.out A7).mono ?_; rintro e w8 ⟨rfl, x8, A8⟩; have hx8 := hidd x8; obtain ⟨x80, x81, x82, x83, x84⟩ := x8.parts)
        | (go_at_call 54; with_reducible refine (HS1.out w8 g6 A8 hx8.out).mono ?_; rintro e w9 ⟨rfl, x9, A9⟩; obtain ⟨x90, x91, x92, x93, x94⟩ := x9.parts)
        | (go_at_call 54; with_reducible refine (HS2.out w9 g6 A9).mono ?_; rintro e w10 ⟨rfl, A10⟩))
      go_ret
      obtain ⟨⟨lab', L', N', y', s10, ho⟩, ch10⟩ := A10.out
      exact ⟨rfl, lab', L', N', num, y', mine, s10, ho, ch10⟩
end Go.Proofs.Ytaalinlggjimcaa
namespace Go.Proofs.Ytaalinlggjimcaa
open Go.RowKit
/-! step: Shrink, Len, anything else. -/
def FinP (w : World) (X : Wx) (lab : Nat → Nat) (bd : Nat) (w' : World) : Prop := ∃ lab' L' N' num' y' mine', St w' X lab' L' N' num' y' mine' (bd + 1) ∧ (∀ z, z < w.heap.size → lab' z = lab z) ∧ Chg w w' (fun z => lab z ≠ 0)
theorem FinP.step {w : World} {X : Wx} {lab : Nat → Nat} {bd : Nat} {w' : World} (h : FinP w X lab bd w') : StepP w X lab bd (.returned (.bool true)) w' := ⟨rfl, h⟩
theorem FinP.fresh {w : World} {X : Wx} {lab : Nat → Nat} {bd : Nat} {w' w'' : World} (h : FinP w X lab bd w') (f : Below w'.heap.size w' w'') : FinP w X lab bd w'' := by
  obtain ⟨a, b, c, d, e, m, s, o, k⟩ := h
  exact ⟨a, b, c, d, e, m, s.fresh f, o, k.post f⟩
theorem St.fin {w w' : World} {X : Wx} {lab : Nat → Nat} {L : Nat → List Nd} {N : Nat → Nat} {num : Nat → Int} {y : Ry} {mine : Nat → Nat} {bd : Nat} (h : St w X lab L N num y mine bd) (f : Below w.heap.size w w') : FinP w X lab bd w' := by
  have s := h.fresh f
  exact ⟨lab, L, N, num, y, mine, ⟨s.ps, s.rs, s.ws, s.inv.more⟩, fun _ _ => rfl, Chg.of_below _ f⟩
set_option maxRecDepth 20000 in
set_option maxHeartbeats 3200000 in
theorem step_shrink {w : World} {X : Wx} {lab : Nat → Nat} {L : Nat → List Nd} {N : Nat → Nat} {num : Nat → Int} {y : Ry} {mine : Nat → Nat} {bd : Nat} (h : St w X lab L N num y mine bd) (tO : Option Addr) (T cap : Nat) (bO : Option Addr) (m bcap : Nat) (n who : Int) {k : Nat} (hk : k < 2) (hr : who.tmod 2 = (k : Int) ∨ (who.tmod 2 = -1 ∧ k = 1)) (hZ : X.Z k) :
    Calls Try.prog 28 #[.pointer (some ⟨X.wd, 0, none⟩), .agg #[.int .i64 6, .int .i64 who, .slice tO T cap, .slice bO m bcap, .int .i64 n]] w (StepP w X lab bd) := by
  obtain ⟨wb, hwb⟩ : ∃ wb, wb = w.alloc (.cells #[.int .i64 6, .int .i64 who, .slice tO T cap, .slice bO m bcap, .int .i64 n] 56) := ⟨_, rfl⟩
  have fb : Below w.heap.size w wb := by rw [hwb]; exact fresh_alloc _ _
  have hbx : Bx wb w.heap.size 6 who n (.slice tO T cap) (.slice bO m bcap) := by rw [hwb]; exact Bx.new _ _ _ _ _ _
  have Hb := h.fresh fb
  have lb0 : lab w.heap.size = 0 := Classical.not_not.1 (fun e => absurd (h.ws.low _ e) (Nat.lt_irrefl _))
  obtain ⟨c0, ck, c3, dk, c6⟩ := PS.cells Hb.ws
  have ckk := ck k hk
  have dkk := dk k hk
  have hwl := (h.ps.ca k hk).well
  have hcB := (h.ps.cc k hk).2.2
  have f0 : Below wb.heap.size wb wb.drew := (Below.refl _ _).drew
  have S0 := Hb.fresh f0
  have fw : Below w.heap.size w wb.drew := fb.trans (f0.mono fb.size)
  have s0 : wb.drew.cell? ⟨w.heap.size, 4, none⟩ = some (.int .i64 n) := fresh_cell f0 hbx.2.2.2.2
  have hbxw : w.heap.size < wb.drew.heap.size := lt_of_cell s0
  have HC1 : Hid (Calls Try.prog 13 #[.pointer (some ⟨(X.c k).C, 0, none⟩), .int .i64 n] wb.drew fun e w5 => ∃ j : Nat, e = .returned (.int .i64 (j : Int)) ∧ w5.cell? ⟨w.heap.size, 4, none⟩ = some (.int .i64 n) ∧ Hid (∃ (L' : List Nd) (cnt' : Nat → Nat), Shr X.B (L k) y.cnt j L' cnt' ∧ ((j : Int) ≤ n ∨ j = 0) ∧ (n ≤ (j : Int) ∨ LeastTo L' cnt' X.B nilP) ∧ PS w5 X lab (setF L k L') (setF N k (N k)) cnt' num ∧ RS w5 X lab L N y ∧ WS w5 X lab mine ∧ Chg w w5 (fun z => lab z ≠ 0))) := by
    refine (ps_shrink S0.ps hk n).mono ?_
    rintro e w5 ⟨j, rfl, L', cnt', a1, a2, a3, a4, hch⟩
    have lcb := S0.ps.lp.2.1
    have hz : ∀ z, (lab z = 3 + k ∨ z = X.cb) → 2 ≤ lab z ∧ lab z ≤ 4 := fun z e => by
      rcases e with e | e
      · omega
      · rw [e]; omega
    have ch0 : Chg wb.drew w5 (fun z => lab z ≠ 0) := hch.imp (fun z _ e => by have := hz z e; omega)
    exact ⟨j, rfl, ch0.cell s0 (fun e => e lb0), L', cnt', a1, a2, a3, a4, S0.rs.chg hch (fun z e => by have := hz z e; omega), S0.ws.chg hch (fun z e => by have := hz z e; omega), (Chg.of_below _ fw).trans ch0 (fun _ _ e => e)⟩
  have HC2 : Hid (∀ w5 j, w5.cell? ⟨w.heap.size, 4, none⟩ = some (.int .i64 n) → Hid (∃ (L' : List Nd) (cnt' : Nat → Nat), Shr X.B (L k) y.cnt j L' cnt' ∧ ((j : Int) ≤ n ∨ j = 0) ∧ (n ≤ (j : Int) ∨ LeastTo L' cnt' X.B nilP) ∧ PS w5 X lab (setF L k L') (setF N k (N k)) cnt' num ∧ RS w5 X lab L N y ∧ WS w5 X lab mine ∧ Chg w w5 (fun z => lab z ≠ 0)) → Calls Try.prog 55 #[.pointer (some ⟨X.D k, 0, none⟩), .int .i64 n] w5 fun e w6 => e = .returned (.int .i64 (j : Nat)) ∧ w6.cell? ⟨w.heap.size, 4, none⟩ = some (.int .i64 n) ∧ Hid (FinP w X lab bd w6)) := fun w5 j x5 A5 => by
    obtain ⟨L', cnt', a1, a2, a3, hps, hrs, hws, ch5⟩ := A5
    refine (rs_shrink hrs hws.low hk hwl hcB (h.inv.cut k hk) (h.inv.tie k hk) n).mono ?_
    rintro e w6 ⟨j', rfl, L2, cnt2, lab2, b1, b2, b3, ⟨hcut, htie⟩, hrs6, hlab, hch⟩
    have e3 := Shr.same hwl (i := j) (j := j') (by rw [hcB]; exact a1) a2 (by rw [hcB]; exact a3) (by rw [hcB]; exact b1) b2 (by rw [hcB]; exact b3)
    obtain ⟨rfl, rfl, rfl⟩ := e3
    have lcb := hrs.lr.2.1
    have hz : ∀ z, (lab z = 6 + k ∨ z = X.x.cb) → 5 ≤ lab z ∧ lab z ≤ 7 := fun z e => by
      rcases e with e | e
      · omega
      · rw [e]; omega
    have ch0 : Chg w5 w6 (fun z => lab z ≠ 0) := hch.imp (fun z _ e => by have := hz z e; omega)
    have ps6 := (hps.chg hch (fun z e => by have := hz z e; omega)).relab (lab' := lab2) (fun u h1 h2 => hlab.other u (by omega) (by omega))
    have ws6 := (hws.chg hch (fun z e => by have := hz z e; omega)).relab (lab' := lab2) (hlab.other 1 (by omega) (by omega)) hlab.low
    refine ⟨rfl, ch0.cell x5 (fun e => e lb0), lab2, _, _, num, _, mine, ⟨ps6, hrs6, ws6, ?_⟩, fun z hz => hlab.old z (Nat.lt_of_lt_of_le hz ch5.size), ch5.trans ch0 (fun _ _ e => e)⟩
    exact h.inv.step hk hZ hcut htie (by have := h.inv.bN k hk; omega) (fun b => shr_bal hwl a1 b)
  have HD1 : Hid (Calls Try.prog 55 #[.pointer (some ⟨X.D k, 0, none⟩), .int .i64 n] wb.drew fun e w5 => ∃ j : Nat, e = .returned (.int .i64 (j : Int)) ∧ w5.cell? ⟨w.heap.size, 4, none⟩ = some (.int .i64 n) ∧ Hid (∃ (L' : List Nd) (cnt' : Nat → Nat) (lab' : Nat → Nat), Shr X.B (L k) y.cnt j L' cnt' ∧ ((j : Int) ≤ n ∨ j = 0) ∧ (n ≤ (j : Int) ∨ LeastTo L' cnt' X.B nilP) ∧ (Cut X.S L' ∧ Tie L') ∧ RS w5 X lab' (setF L k L') (setF N k (N k)) { y with cnt := cnt' } ∧ PS w5 X lab' L N y.cnt num ∧ WS w5 X lab' mine ∧ (∀ z, z < wb.drew.heap.size → lab' z = lab z) ∧ Chg w w5 (fun z => lab z ≠ 0))) := by
    refine (rs_shrink S0.rs S0.ws.low hk hwl hcB (h.inv.cut k hk) (h.inv.tie k hk) n).mono ?_
    rintro e w5 ⟨j', rfl, L2, cnt2, lab2, b1, b2, b3, hct, hrs5, hlab, hch⟩
    have lcb := S0.rs.lr.2.1
    have hz : ∀ z, (lab z = 6 + k ∨ z = X.x.cb) → 5 ≤ lab z ∧ lab z ≤ 7 := fun z e => by
      rcases e with e | e
      · omega
      · rw [e]; omega
    have ch0 : Chg wb.drew w5 (fun z => lab z ≠ 0) := hch.imp (fun z _ e => by have := hz z e; omega)
    have ps5 := (S0.ps.chg hch (fun z e => by have := hz z e; omega)).relab (lab' := lab2) (fun u h1 h2 => hlab.other u (by omega) (by omega))
    have ws5 := (S0.ws.chg hch (fun z e => by have := hz z e; omega)).relab (lab' := lab2) (hlab.other 1 (by omega) (by omega)) hlab.low
    exact ⟨j', rfl, ch0.cell s0 (fun e => e lb0), L2, cnt2, lab2, b1, b2, b3, hct, hrs5, ps5, ws5, hlab.old, (Chg.of_below _ fw).trans ch0 (fun _ _ e => e)⟩
  have HD2 : Hid (∀ w5 j, w5.cell? ⟨w.heap.size, 4, none⟩ = some (.int .i64 n) → Hid (∃ (L' : List Nd) (cnt' : Nat → Nat) (lab' : Nat → Nat), Shr X.B (L k) y.cnt j L' cnt' ∧ ((j : Int) ≤ n ∨ j = 0) ∧ (n ≤ (j : Int) ∨ LeastTo L' cnt' X.B nilP) ∧ (Cut X.S L' ∧ Tie L') ∧ RS w5 X lab' (setF L k L') (setF N k (N k)) { y with cnt := cnt' } ∧ PS w5 X lab' L N y.cnt num ∧ WS w5 X lab' mine ∧ (∀ z, z < wb.drew.heap.size → lab' z = lab z) ∧ Chg w w5 (fun z => lab z ≠ 0)) → Calls Try.prog 13 #[.pointer (some ⟨(X.c k).C, 0, none⟩), .int .i64 n] w5 fun e w6 => e = .returned (.int .i64 (j : Nat)) ∧ w6.cell? ⟨w.heap.size, 4, none⟩ = some (.int .i64 n) ∧ Hid (FinP w X lab bd w6)) := fun w5 j x5 A5 => by
    obtain ⟨L2, cnt2, lab2, b1, b2, b3, ⟨hcut, htie⟩, hrs, hps, hws, hold, ch5⟩ := A5
    refine (ps_shrink hps hk n).mono ?_
    rintro e w6 ⟨j', rfl, L', cnt', a1, a2, a3, a4, hch⟩
    have e3 := Shr.same hwl (i := j) (j := j') (by rw [hcB]; exact b1) b2 (by rw [hcB]; exact b3) (by rw [hcB]; exact a1) a2 (by rw [hcB]; exact a3)
    obtain ⟨rfl, rfl, rfl⟩ := e3
    have lcb := hps.lp.2.1
    have hz : ∀ z, (lab2 z = 3 + k ∨ z = X.cb) → 2 ≤ lab2 z ∧ lab2 z ≤ 4 := fun z e => by
      rcases e with e | e
      · omega
      · rw [e]; omega
    have ch0 : Chg w5 w6 (fun z => lab2 z ≠ 0) := hch.imp (fun z _ e => by have := hz z e; omega)
    have hw : w.heap.size ≤ wb.drew.heap.size := fw.size
    refine ⟨rfl, ch0.cell x5 (fun e => e (by rw [hold _ hbxw]; exact lb0)), lab2, _, _, num, _, mine, ⟨a4, hrs.chg hch (fun z e => by have := hz z e; omega), hws.chg hch (fun z e => by have := hz z e; omega), ?_⟩, fun z hz => hold z (by omega), ch5.trans ch0 (fun z hz e => by rw [← hold z (by omega)]; exact e)⟩
    exact h.inv.step hk hZ hcut htie (by have := h.inv.bN k hk; omega) (fun b => shr_bal hwl b1 b)
  obtain ⟨x0, x1, x2, x3, x4⟩ := hbx
  clear h Hb fb c0 c3 c6 ck dk hwl hcB S0 fw f0 hbxw
  rcases hr with hr | ⟨hr, rfl⟩
  · have hkd : decide ((k : Int) < 0) = false := by simp
    have k0 : (0 : Int) ≤ (k : Int) := by omega
    have k1 : (k : Int) < 2 := by omega
    go_enter Try.func28, Try.ntmps28
    go_upto_region 1 with fail
    rw [← hwb]
    clear hwb
    go_upto_region 23 with fail
    go_region_held3 (fun w' => w'.cell? ⟨w.heap.size, 4, none⟩ = some (.int .i64 n))
      (first | (with_reducible exact s0) | (with_reducible exact k5) | (with_reducible exact k6) | (with_reducible exact y5) | (with_reducible exact y6) | go_keep)
      (first
        | (go_at_call 13; with_reducible refine HC1.out.mono ?_; rintro e w5 ⟨j, rfl, k5, A5⟩)
        | (go_at_call 55; with_reducible refine (HC2.out w5 j k5 A5).mono ?_; rintro e w6 ⟨rfl, k6, F6⟩)
        | (go_at_call 55; with_reducible refine HD1.out.mono ?_; rintro e v5 ⟨i, rfl, y5, B5⟩)
        | (go_at_call 13; with_reducible refine (HD2.out v5 i y5 B5).mono ?_; rintro e v6 ⟨rfl, y6, F6⟩))
    all_goals
      go_wp2
      go_ret
      exact F6.out.step
  · go_enter Try.func28, Try.ntmps28
    go_upto_region 1 with fail
    rw [← hwb]
    clear hwb
    go_upto_region 23 with fail
    go_region_held3 (fun w' => w'.cell? ⟨w.heap.size, 4, none⟩ = some (.int .i64 n))
      (first | (with_reducible exact s0) | (with_reducible exact k5) | (with_reducible exact k6) | (with_reducible exact y5) | (with_reducible exact y6) | go_keep)
      (first
        | (go_at_call 13; with_reducible refine HC1.out.mono ?_; rintro e w5 ⟨j, rfl, k5, A5⟩)
        | (go_at_call 55; with_reducible refine (HC2.out w5 j k5 A5).mono ?_; rintro e w6 ⟨rfl, k6, F6⟩)
        | (go_at_call 55; with_reducible refine HD1.out.mono ?_; rintro e v5 ⟨i, rfl, y5, B5⟩)
        | (go_at_call 13; with_reducible refine (HD2.out v5 i y5 B5).mono ?_; rintro e v6 ⟨rfl, y6, F6⟩))
    all_goals
      go_wp2
      go_ret
      exact F6.out.step
set_option maxRecDepth 20000 in
set_option maxHeartbeats 3200000 in
theorem step_len {w : World} {X : Wx} {lab : Nat → Nat} {L : Nat → List Nd} {N : Nat → Nat} {num : Nat → Int} {y : Ry} {mine : Nat → Nat} {bd : Nat} (h : St w X lab L N num y mine bd) (tO : Option Addr) (T cap : Nat) (bO : Option Addr) (m bcap : Nat) (n who : Int) {k : Nat} (hk : k < 2) (hr : who.tmod 2 = (k : Int) ∨ (who.tmod 2 = -1 ∧ k = 1)) :
    Calls Try.prog 28 #[.pointer (some ⟨X.wd, 0, none⟩), .agg #[.int .i64 7, .int .i64 who, .slice tO T cap, .slice bO m bcap, .int .i64 n]] w (StepP w X lab bd) := by
  obtain ⟨wb, hwb⟩ : ∃ wb, wb = w.alloc (.cells #[.int .i64 7, .int .i64 who, .slice tO T cap, .slice bO m bcap, .int .i64 n] 56) := ⟨_, rfl⟩
  have fb : Below w.heap.size w wb := by rw [hwb]; exact fresh_alloc _ _
  have hbx : Bx wb w.heap.size 7 who n (.slice tO T cap) (.slice bO m bcap) := by rw [hwb]; exact Bx.new _ _ _ _ _ _
  have Hb := h.fresh fb
  obtain ⟨c0, ck, c3, dk, c6⟩ := PS.cells Hb.ws
  have ckk := ck k hk
  have dkk := dk k hk
  have HC1 := hidd (ps_len Hb.ps hk)
  have HC2 := hidd (rs_len Hb.rs hk)
  have HF := hidd (h.fin fb)
  obtain ⟨x0, x1, x2, x3, x4⟩ := hbx
  clear h Hb fb c0 c3 c6 ck dk
  rcases hr with hr | ⟨hr, rfl⟩
  · have hkd : decide ((k : Int) < 0) = false := by simp
    have k0 : (0 : Int) ≤ (k : Int) := by omega
    have k1 : (k : Int) < 2 := by omega
    go_enter Try.func28, Try.ntmps28
    go_upto_region 1 with fail
    rw [← hwb]
    clear hwb
    go_wp2_with (first
      | (go_at_call 14; with_reducible refine HC1.out.mono ?_; rintro e w5 ⟨rfl, h5⟩; rw [h5]; clear h5)
      | (go_at_call 56; with_reducible refine HC2.out.mono ?_; rintro e w5 ⟨rfl, h5⟩; rw [h5]; clear h5))
    go_ret
    exact HF.out.step
  · go_enter Try.func28, Try.ntmps28
    go_upto_region 1 with fail
    rw [← hwb]
    clear hwb
    go_wp2_with (first
      | (go_at_call 14; with_reducible refine HC1.out.mono ?_; rintro e w5 ⟨rfl, h5⟩; rw [h5]; clear h5)
      | (go_at_call 56; with_reducible refine HC2.out.mono ?_; rintro e w5 ⟨rfl, h5⟩; rw [h5]; clear h5))
    go_ret
    exact HF.out.step
set_option maxRecDepth 20000 in
set_option maxHeartbeats 3200000 in
theorem step_other {w : World} {X : Wx} {lab : Nat → Nat} {L : Nat → List Nd} {N : Nat → Nat} {num : Nat → Int} {y : Ry} {mine : Nat → Nat} {bd : Nat} (h : St w X lab L N num y mine bd) (tO : Option Addr) (T cap : Nat) (bO : Option Addr) (m bcap : Nat) (kind n who : Int) (hkind : kind < 1 ∨ 7 < kind) {k : Nat} (hk : k < 2) (hr : who.tmod 2 = (k : Int) ∨ (who.tmod 2 = -1 ∧ k = 1)) :
    Calls Try.prog 28 #[.pointer (some ⟨X.wd, 0, none⟩), .agg #[.int .i64 kind, .int .i64 who, .slice tO T cap, .slice bO m bcap, .int .i64 n]] w (StepP w X lab bd) := by
  obtain ⟨wb, hwb⟩ : ∃ wb, wb = w.alloc (.cells #[.int .i64 kind, .int .i64 who, .slice tO T cap, .slice bO m bcap, .int .i64 n] 56) := ⟨_, rfl⟩
  have fb : Below w.heap.size w wb := by rw [hwb]; exact fresh_alloc _ _
  have hbx : Bx wb w.heap.size kind who n (.slice tO T cap) (.slice bO m bcap) := by rw [hwb]; exact Bx.new _ _ _ _ _ _
  have Hb := h.fresh fb
  obtain ⟨c0, ck, c3, dk, c6⟩ := PS.cells Hb.ws
  have ckk := ck k hk
  have dkk := dk k hk
  have HF := hidd (h.fin fb)
  have e1 : (kind == 1) = false := by simp; omega
  have e2 : (kind == 2) = false := by simp; omega
  have e3 : (kind == 3) = false := by simp; omega
  have e4 : (kind == 4) = false := by simp; omega
  have e5 : (kind == 5) = false := by simp; omega
  have e6 : (kind == 6) = false := by simp; omega
  have e7 : (kind == 7) = false := by simp; omega
  obtain ⟨x0, x1, x2, x3, x4⟩ := hbx
  clear h Hb fb c0 c3 c6 ck dk hkind
  rcases hr with hr | ⟨hr, rfl⟩
  · have hkd : decide ((k : Int) < 0) = false := by simp
    have k0 : (0 : Int) ≤ (k : Int) := by omega
    have k1 : (k : Int) < 2 := by omega
    go_enter Try.func28, Try.ntmps28
    go_upto_region 1 with fail
    rw [← hwb]
    clear hwb
    go_wp2
    go_ret
    exact HF.out.step
  · go_enter Try.func28, Try.ntmps28
    go_upto_region 1 with fail
    rw [← hwb]
    clear hwb
    go_wp2
    go_ret
    exact HF.out.step
end Go.Proofs.Ytaalinlggjimcaa
namespace Go.Proofs.Ytaalinlggjimcaa
open Go.RowKit
/-! atPool. -/
/-- the script's own list, written -/
theorem WS.set {w : World} {X : Wx} {lab mine : Nat → Nat} (h : WS w X lab mine) (b m : Nat) : WS (w.setCell ⟨X.mb, b, none⟩ (.int .i64 (m : Nat))) X lab (updN mine b m) := by
  have k := Chg.of_set w X.mb b (.int .i64 (m : Nat))
  have hne : X.wd ≠ X.mb := type_apart h.row h.mn (by decide)
  refine ⟨k.row h.row hne, (h.mn.set b (.int .i64 (m : Nat))).congr (fun j hj => ?_), h.lw, fun z hz => Nat.lt_of_lt_of_le (h.low z hz) k.size⟩
  unfold updN
  by_cases e : j = b
  · rw [if_pos e, if_pos e]
  · rw [if_neg e, if_neg e]
def Wc (w : World) (X : Wx) : Prop := w.cell? ⟨X.wd, 0, none⟩ = some (.pointer (some ⟨X.pg, 0, none⟩)) ∧ w.cell? ⟨X.wd, 3, none⟩ = some (.pointer (some ⟨X.x.g, 0, none⟩)) ∧ w.cell? ⟨X.wd, 6, none⟩ = some (.slice (some ⟨X.mb, 0, none⟩) X.B X.B)
theorem WS.wc {w : World} {X : Wx} {lab mine : Nat → Nat} (h : WS w X lab mine) : w.cell? ⟨X.wd, 0, none⟩ = some (.pointer (some ⟨X.pg, 0, none⟩)) ∧ w.cell? ⟨X.wd, 3, none⟩ = some (.pointer (some ⟨X.x.g, 0, none⟩)) ∧ w.cell? ⟨X.wd, 6, none⟩ = some (.slice (some ⟨X.mb, 0, none⟩) X.B X.B) := by
  obtain ⟨c0, _, c3, _, c6⟩ := PS.cells h
  exact ⟨c0, c3, c6⟩
/-- both sides have done it; the script's list comes last -/
theorem fin_set {w w6 : World} {X : Wx} {lab lab' : Nat → Nat} {L : Nat → List Nd} {N : Nat → Nat} {num' : Nat → Int} {y y' : Ry} {mine : Nat → Nat} {bd : Nat} (hi : Inv X L N y.cnt mine bd) (hps : PS w6 X lab' L N y'.cnt num') (hrs : RS w6 X lab' L N y') (hws : WS w6 X lab' mine) {b c m : Nat} (hc : y'.cnt = updN y.cnt b c) (hm : m ≤ bd + 1) (hcm : c + mine b = y.cnt b + m) (hold : ∀ z, z < w.heap.size → lab' z = lab z) (hch : Chg w w6 (fun z => lab z ≠ 0)) (hmb : lab X.mb ≠ 0) : FinP w X lab bd (w6.setCell ⟨X.mb, b, none⟩ (.int .i64 (m : Nat))) := by
  have k := Chg.of_set w6 X.mb b (.int .i64 (m : Nat))
  have l1 := hws.lw.2
  refine ⟨lab', L, N, num', y', updN mine b m, ⟨hps.chg k (fun z e => by rw [e]; omega), hrs.chg k (fun z e => by rw [e]; omega), hws.set b m, ?_⟩, hold, hch.trans k (fun z hz e => by rw [e]; exact hmb)⟩
  rw [hc]
  exact hi.hold b hm hcm
set_option maxRecDepth 20000 in
set_option maxHeartbeats 3200000 in
theorem at_take {w : World} {X : Wx} {lab : Nat → Nat} {L : Nat → List Nd} {N : Nat → Nat} {num : Nat → Int} {y : Ry} {mine : Nat → Nat} {bd : Nat} (h : St w X lab L N num y mine bd) (hbd : bd ≤ 1099511627776) (tO : Option Addr) (T cap : Nat) (bO : Option Addr) (m bcap : Nat) (n who : Int) :
    Calls Try.prog 52 #[.pointer (some ⟨X.wd, 0, none⟩), .agg #[.int .i64 1, .int .i64 who, .slice tO T cap, .slice bO m bcap, .int .i64 n]] w (StepP w X lab bd) := by
  obtain ⟨wb, hwb⟩ : ∃ wb, wb = w.alloc (.cells #[.int .i64 1, .int .i64 who, .slice tO T cap, .slice bO m bcap, .int .i64 n] 56) := ⟨_, rfl⟩
  have fb : Below w.heap.size w wb := by rw [hwb]; exact fresh_alloc _ _
  have hbx : Bx wb w.heap.size 1 who n (.slice tO T cap) (.slice bO m bcap) := by rw [hwb]; exact Bx.new _ _ _ _ _ _
  have Hb := h.fresh fb
  obtain ⟨c0, c3, c6⟩ := Hb.ws.wc
  have hmbl := h.ws.lw.2
  have hBB := h.ps.pool.hB
  rcases lowest y.cnt X.B with hl | ⟨b, h1, h2, h3⟩
  · have HT1 : Hid (Calls Try.prog 17 #[.pointer (some ⟨X.pg, 0, none⟩)] wb fun e w5 => e = .returned (.tuple #[.int .i64 0, .int .i64 60]) ∧ w5 = wb) := by
      refine (ps_take Hb.ps).mono ?_
      rintro e w5 (⟨b, a1, a2, _⟩ | ⟨_, a2, a3⟩)
      · exact absurd a2 (hl b a1)
      · exact ⟨a2, a3⟩
    have HT2 := hidd (rs_take_miss Hb.rs hl)
    have HF := hidd (h.fin fb)
    obtain ⟨x0, x1, x2, x3, x4⟩ := hbx
    clear h Hb fb
    go_enter Try.func52, Try.ntmps52
    go_upto_region 1 with fail
    rw [← hwb]
    clear hwb
    go_wp2_with (first
      | (go_at_call 17; with_reducible refine HT1.out.mono ?_; rintro e w5 ⟨rfl, h5⟩; rw [h5]; clear h5)
      | (go_at_call 69; with_reducible refine HT2.out.mono ?_; rintro e w5 ⟨rfl, h5⟩; rw [h5]; clear h5))
    go_ret
    exact HF.out.step
  · obtain ⟨m1, hm1⟩ : ∃ m1, m1 = mine b + 1 := ⟨_, rfl⟩
    have e1 : (mine b : Int) + 1 = (m1 : Int) := by omega
    have hmb := h.inv.bM b
    have hmb2 : m1 ≤ 2199023255552 := by omega
    have HT1 : Hid (Calls Try.prog 17 #[.pointer (some ⟨X.pg, 0, none⟩)] wb fun e w5 => e = .returned (.tuple #[.int .i64 b, .int .i64 0]) ∧ w5.cell? ⟨X.wd, 3, none⟩ = some (.pointer (some ⟨X.x.g, 0, none⟩)) ∧ Hid (∃ num', PS w5 X lab L N (updN y.cnt b 1) num' ∧ RS w5 X lab L N y ∧ WS w5 X lab mine ∧ Chg w w5 (fun z => lab z ≠ 0))) := by
      refine (ps_take Hb.ps).mono ?_
      rintro e w5 (⟨b', a1, a2, a3, rfl, ⟨num', a4⟩, a5⟩ | ⟨a1, _⟩)
      · have : b' = b := by
          rcases Nat.lt_trichotomy b' b with e | e | e
          · exact absurd a2 (h3 b' e)
          · exact e
          · exact absurd h2 (a3 b e)
        subst this
        have ws5 := Hb.ws.chg a5 (fun z e => by have e : lab z = 2 := e; omega)
        exact ⟨rfl, ws5.wc.2.1, num', a4, Hb.rs.chg a5 (fun z e => by have e : lab z = 2 := e; omega), ws5, (Chg.of_below _ fb).trans a5 (fun z _ e => by have e : lab z = 2 := e; omega)⟩
      · exact absurd h2 (a1 b h1)
    have HT2 : Hid (∀ w5, Hid (∃ num', PS w5 X lab L N (updN y.cnt b 1) num' ∧ RS w5 X lab L N y ∧ WS w5 X lab mine ∧ Chg w w5 (fun z => lab z ≠ 0)) → Calls Try.prog 69 #[.pointer (some ⟨X.x.g, 0, none⟩)] w5 fun e w6 => e = .returned (.tuple #[.int .i64 b, .int .i64 0]) ∧ w6.cell? ⟨X.wd, 6, none⟩ = some (.slice (some ⟨X.mb, 0, none⟩) X.B X.B) ∧ w6.cell? ⟨X.mb, b, none⟩ = some (.int .i64 (mine b : Nat)) ∧ w6.frozen? ⟨X.mb, b, none⟩ = false ∧ Hid (FinP w X lab bd (w6.setCell ⟨X.mb, b, none⟩ (.int .i64 (m1 : Nat))))) := fun w5 A5 => by
      obtain ⟨num', hps, hrs, hws, ch5⟩ := A5
      refine (rs_take_hit hrs hws.low h1 h2 h3).mono ?_
      rintro e w6 ⟨rfl, lab', y', hrs6, hy, hlab, hch⟩
      have ps6 := (hps.chg hch (fun z e => by have e : lab z = 5 := e; omega)).relab (lab' := lab') (fun u h1 h2 => hlab.other u (by omega) (by omega))
      have ws6 := (hws.chg hch (fun z e => by have e : lab z = 5 := e; omega)).relab (lab' := lab') (hlab.other 1 (by omega) (by omega)) hlab.low
      rw [← hy] at ps6
      refine ⟨rfl, ws6.wc.2.2, ws6.mn.cell h1, ws6.mn.frozen b, fin_set h.inv ps6 hrs6 ws6 hy (by omega) (by rw [h2]; omega) (fun z hz => hlab.old z (Nat.lt_of_lt_of_le hz ch5.size)) (ch5.trans hch (fun z _ e => by have e : lab z = 5 := e; omega)) (by omega)⟩
    have b0 : (0 : Int) ≤ (b : Int) := by omega
    have b1 : (b : Int) < (X.B : Int) := by omega
    obtain ⟨x0, x1, x2, x3, x4⟩ := hbx
    clear h Hb fb hmb
    generalize mine b = mb0 at *
    clear hm1
    go_enter Try.func52, Try.ntmps52
    go_upto_region 1 with fail
    rw [← hwb]
    clear hwb
    go_wp2_with (first
      | (go_at_call 17; with_reducible refine HT1.out.mono ?_; rintro e w5 ⟨rfl, k5, A5⟩)
      | (go_at_call 69; with_reducible refine (HT2.out w5 A5).mono ?_; rintro e w6 ⟨rfl, k6, k7, k8, F6⟩))
    go_ret
    exact F6.out.step
set_option maxRecDepth 20000 in
set_option maxHeartbeats 3200000 in
theorem at_hold {w : World} {X : Wx} {lab : Nat → Nat} {L : Nat → List Nd} {N : Nat → Nat} {num : Nat → Int} {y : Ry} {mine : Nat → Nat} {bd : Nat} (h : St w X lab L N num y mine bd) (hbd : bd ≤ 1099511627776) (tO : Option Addr) (T cap : Nat) (bO : Option Addr) (m bcap : Nat) (n who : Int) :
    Calls Try.prog 52 #[.pointer (some ⟨X.wd, 0, none⟩), .agg #[.int .i64 2, .int .i64 who, .slice tO T cap, .slice bO m bcap, .int .i64 n]] w (StepP w X lab bd) := by
  obtain ⟨wb, hwb⟩ : ∃ wb, wb = w.alloc (.cells #[.int .i64 2, .int .i64 who, .slice tO T cap, .slice bO m bcap, .int .i64 n] 56) := ⟨_, rfl⟩
  have fb : Below w.heap.size w wb := by rw [hwb]; exact fresh_alloc _ _
  have hbx : Bx wb w.heap.size 2 who n (.slice tO T cap) (.slice bO m bcap) := by rw [hwb]; exact Bx.new _ _ _ _ _ _
  have Hb := h.fresh fb
  obtain ⟨c0, c3, c6⟩ := Hb.ws.wc
  have hmbl := h.ws.lw.2
  have hBB := h.ps.pool.hB
  have lb0 : lab w.heap.size = 0 := Classical.not_not.1 (fun e => absurd (h.ws.low _ e) (Nat.lt_irrefl _))
  by_cases hz : cntI y.cnt X.B n = 0
  · have HB1 : Hid (∀ z : Later wb, Calls Try.prog 65 #[.pointer (some ⟨X.pg, 0, none⟩), .int .i64 n] z.val fun e w' => e = .returned (.int .i64 61) ∧ w' = z.val) := fun z => hold_bad (Hb.fresh z.fresh).ps.pool n hz
    have HB2 : Hid (∀ (z : Later wb) (z2 : Later z.val), Calls Try.prog 62 #[.pointer (some ⟨X.x.g, 0, none⟩), .int .i64 n] z2.val fun e w' => e = .returned (.int .i64 61) ∧ w' = z2.val) := fun z z2 => rhold_bad ((Hb.fresh z.fresh).fresh z2.fresh).rs.ref n (by rw [h.rs.xx.1]; exact hz)
    have HF : Hid (∀ w', Below wb.heap.size wb w' → FinP w X lab bd w') := fun w' f => h.fin (fb.trans (f.mono fb.size))
    obtain ⟨x0, x1, x2, x3, x4⟩ := hbx
    have l0 := later_cell c0
    have l3 := later_cell c3
    have lx := later_cell x4
    have ne := later_some wb
    clear h Hb fb
    go_enter Try.func52, Try.ntmps52
    go_upto_region 1 with fail
    rw [← hwb]
    clear hwb
    go_upto_region 9 with fail
    refine wp_region_later (by kernel_rfl) (by kernel_rfl) ?_
    repeat (go_big_quiet_step (fail))
    go_big_quiet_step (exact later_same (HB1.out _))
    repeat (go_big_quiet_step (fail))
    refine wpQuiet_nil ?_
    rintro _ ⟨z, rfl⟩
    have q3 := l3 z
    have qx := lx z
    have p3 := later_cell q3
    have px := later_cell qx
    have ne2 := later_some z.val
    have HB3 := hidd (HB2.out z)
    have fz := z.fresh
    clear l0 l3 lx HB1 HB2 ne
    generalize z.val = zv at *
    go_upto_region 10 with fail
    refine wp_region_later (by kernel_rfl) (by kernel_rfl) ?_
    repeat (go_big_quiet_step (fail))
    go_big_quiet_step (exact later_same (HB3.out _))
    repeat (go_big_quiet_step (fail))
    refine wpQuiet_nil ?_
    rintro _ ⟨z2, rfl⟩
    have fz2 := z2.fresh
    go_wp2
    go_ret
    exact (HF.out _ (fresh_trans fz fz2)).step
  · obtain ⟨b, rfl, hb, h0⟩ : ∃ b : Nat, n = b ∧ b < X.B ∧ y.cnt b ≠ 0 := by
      unfold cntI at hz
      by_cases e : 0 ≤ n ∧ n < X.B
      · rw [if_pos e] at hz
        exact ⟨n.toNat, by omega, by omega, hz⟩
      · rw [if_neg e] at hz
        exact absurd rfl hz
    obtain ⟨m1, hm1⟩ : ∃ m1, m1 = mine b + 1 := ⟨_, rfl⟩
    have e1 : (mine b : Int) + 1 = (m1 : Int) := by omega
    have hmb := h.inv.bM b
    have hmb2 : m1 ≤ 2199023255552 := by omega
    have hcb := h.inv.cnt b
    have f0 : Below wb.heap.size wb wb.drew := (Below.refl _ _).drew
    have S0 := Hb.fresh f0
    have fw : Below w.heap.size w wb.drew := fb.trans (f0.mono fb.size)
    have s0 : wb.drew.cell? ⟨X.wd, 0, none⟩ = some (.pointer (some ⟨X.pg, 0, none⟩)) ∧ wb.drew.cell? ⟨w.heap.size, 4, none⟩ = some (.int .i64 (b : Int)) := ⟨fresh_cell f0 c0, fresh_cell f0 hbx.2.2.2.2⟩
    have HT1 : Hid (Calls Try.prog 65 #[.pointer (some ⟨X.pg, 0, none⟩), .int .i64 (b : Nat)] wb.drew fun e w5 => e = .returned (.int .i64 0) ∧ (w5.cell? ⟨X.wd, 0, none⟩ = some (.pointer (some ⟨X.pg, 0, none⟩)) ∧ w5.cell? ⟨w.heap.size, 4, none⟩ = some (.int .i64 (b : Int))) ∧ (w5.drew.cell? ⟨X.wd, 3, none⟩ = some (.pointer (some ⟨X.x.g, 0, none⟩)) ∧ w5.drew.cell? ⟨w.heap.size, 4, none⟩ = some (.int .i64 (b : Int))) ∧ Hid (PS w5 X lab L N (updN y.cnt b (y.cnt b + 1)) num ∧ RS w5 X lab L N y ∧ WS w5 X lab mine ∧ w5.cell? ⟨w.heap.size, 4, none⟩ = some (.int .i64 (b : Int)) ∧ Chg w w5 (fun z => lab z ≠ 0))) := by
      refine (ps_hold_ok S0.ps hb h0 (by omega)).mono ?_
      rintro e w5 ⟨rfl, a1, a2⟩
      have ws5 := S0.ws.chg a2 (fun z e => by have e : lab z = 2 := e; omega)
      have x5 := a2.cell s0.2 (fun e => by have e : lab w.heap.size = 2 := e; omega)
      exact ⟨rfl, ⟨ws5.wc.1, x5⟩, ⟨fresh_cell (Below.refl _ _).drew ws5.wc.2.1, fresh_cell (Below.refl _ _).drew x5⟩, a1, S0.rs.chg a2 (fun z e => by have e : lab z = 2 := e; omega), ws5, x5, (Chg.of_below _ fw).trans a2 (fun z _ e => by have e : lab z = 2 := e; omega)⟩
    have HT2 : Hid (∀ w5, Hid (PS w5 X lab L N (updN y.cnt b (y.cnt b + 1)) num ∧ RS w5 X lab L N y ∧ WS w5 X lab mine ∧ w5.cell? ⟨w.heap.size, 4, none⟩ = some (.int .i64 (b : Int)) ∧ Chg w w5 (fun z => lab z ≠ 0)) → Calls Try.prog 62 #[.pointer (some ⟨X.x.g, 0, none⟩), .int .i64 (b : Nat)] w5.drew fun e w6 => e = .returned (.int .i64 0) ∧ (w6.cell? ⟨X.wd, 3, none⟩ = some (.pointer (some ⟨X.x.g, 0, none⟩)) ∧ w6.cell? ⟨w.heap.size, 4, none⟩ = some (.int .i64 (b : Int))) ∧ w6.cell? ⟨X.wd, 6, none⟩ = some (.slice (some ⟨X.mb, 0, none⟩) X.B X.B) ∧ w6.cell? ⟨X.mb, b, none⟩ = some (.int .i64 (mine b : Nat)) ∧ w6.frozen? ⟨X.mb, b, none⟩ = false ∧ Hid (FinP w X lab bd (w6.setCell ⟨X.mb, b, none⟩ (.int .i64 (m1 : Nat))))) := fun w5 A5 => by
      obtain ⟨hps, hrs, hws, x5, ch5⟩ := A5
      have f5 : Below w5.heap.size w5 w5.drew := (Below.refl _ _).drew
      have kk := Chg.of_below (fun _ => False) f5
      refine (rs_hold_ok (hrs.chg kk (fun _ e => e.elim)) hb h0 (by omega)).mono ?_
      rintro e w6 ⟨rfl, a1, a2⟩
      have ps6 := (hps.chg kk (fun _ e => e.elim)).chg a2 (fun z e => by have e : lab z = 5 := e; omega)
      have ws6 := (hws.chg kk (fun _ e => e.elim)).chg a2 (fun z e => by have e : lab z = 5 := e; omega)
      have x6 := a2.cell (fresh_cell f5 x5) (fun e => by have e : lab w.heap.size = 5 := e; omega)
      exact ⟨rfl, ⟨ws6.wc.2.1, x6⟩, ws6.wc.2.2, ws6.mn.cell hb, ws6.mn.frozen b, fin_set h.inv ps6 a1 ws6 rfl (by omega) (by omega) (fun _ _ => rfl) ((ch5.post f5).trans a2 (fun z _ e => by have e : lab z = 5 := e; omega)) (by omega)⟩
    have b0 : (0 : Int) ≤ (b : Int) := by omega
    have b1 : (b : Int) < (X.B : Int) := by omega
    obtain ⟨x0, x1, x2, x3, x4⟩ := hbx
    clear h Hb fb hmb S0 fw f0 hcb h0 hz
    generalize mine b = mb0 at *
    clear hm1
    go_enter Try.func52, Try.ntmps52
    go_upto_region 1 with fail
    rw [← hwb]
    clear hwb
    go_upto_region 9 with fail
    go_region_held3 (fun w' => w'.cell? ⟨X.wd, 0, none⟩ = some (.pointer (some ⟨X.pg, 0, none⟩)) ∧ w'.cell? ⟨w.heap.size, 4, none⟩ = some (.int .i64 (b : Int)))
      (first | (with_reducible exact s0) | (with_reducible exact k5) | go_keep)
      (first | (go_at_call 65; with_reducible refine HT1.out.mono ?_; rintro e w5 ⟨rfl, k5, s5, A5⟩))
    all_goals
      clear HT1 s0 k5
      go_upto_region 10 with fail
      go_region_held3 (fun w' => w'.cell? ⟨X.wd, 3, none⟩ = some (.pointer (some ⟨X.x.g, 0, none⟩)) ∧ w'.cell? ⟨w.heap.size, 4, none⟩ = some (.int .i64 (b : Int)))
        (first | (with_reducible exact s5) | (with_reducible exact k6) | go_keep)
        (first | (go_at_call 62; with_reducible refine (HT2.out w5 A5).mono ?_; rintro e w6 ⟨rfl, k6, k7, k8, k9, F6⟩))
      all_goals
        clear HT2 s5
        obtain ⟨k60, k61⟩ := k6
        go_wp2
        go_region
        go_wp2
        go_ret
        exact (F6.out.fresh (Below.refl _ _).drew).step
set_option maxRecDepth 20000 in
set_option maxHeartbeats 3200000 in
theorem at_drop {w : World} {X : Wx} {lab : Nat → Nat} {L : Nat → List Nd} {N : Nat → Nat} {num : Nat → Int} {y : Ry} {mine : Nat → Nat} {bd : Nat} (h : St w X lab L N num y mine bd) (hbd : bd ≤ 1099511627776) (tO : Option Addr) (T cap : Nat) (bO : Option Addr) (m bcap : Nat) (n who : Int) :
    Calls Try.prog 52 #[.pointer (some ⟨X.wd, 0, none⟩), .agg #[.int .i64 3, .int .i64 who, .slice tO T cap, .slice bO m bcap, .int .i64 n]] w (StepP w X lab bd) := by
  obtain ⟨wb, hwb⟩ : ∃ wb, wb = w.alloc (.cells #[.int .i64 3, .int .i64 who, .slice tO T cap, .slice bO m bcap, .int .i64 n] 56) := ⟨_, rfl⟩
  have fb : Below w.heap.size w wb := by rw [hwb]; exact fresh_alloc _ _
  have hbx : Bx wb w.heap.size 3 who n (.slice tO T cap) (.slice bO m bcap) := by rw [hwb]; exact Bx.new _ _ _ _ _ _
  have Hb := h.fresh fb
  obtain ⟨c0, c3, c6⟩ := Hb.ws.wc
  have hmbl := h.ws.lw.2
  have hBB := h.ps.pool.hB
  have lb0 : lab w.heap.size = 0 := Classical.not_not.1 (fun e => absurd (h.ws.low _ e) (Nat.lt_irrefl _))
  by_cases hz : ∃ b : Nat, n = b ∧ b < X.B ∧ 0 < mine b
  · have HMI : Hid (Calls Try.prog 70 #[.pointer (some ⟨X.wd, 0, none⟩), .int .i64 n] wb fun e w' => e = .returned (.bool true) ∧ w' = wb) := by
      refine (mine_any Hb.ws n).mono ?_
      rintro e w' ⟨r, rfl, hr, hw⟩
      have : r = true := hr.2 hz
      subst this
      exact ⟨rfl, hw⟩
    obtain ⟨b, rfl, hb, h0⟩ := hz
    obtain ⟨m1, hm1⟩ : ∃ m1, m1 = mine b - 1 := ⟨_, rfl⟩
    have e1 : (mine b : Int) - 1 = (m1 : Int) := by omega
    have hmb := h.inv.bM b
    have hmb2 : m1 ≤ 2199023255552 := by omega
    have hcb := h.inv.cnt b
    have hct := h.inv.cts b
    have km := Hb.ws.mn.cell hb
    have kf := Hb.ws.mn.frozen b
    obtain ⟨wc, hwc⟩ : ∃ wc, wc = (wb.setCell ⟨X.mb, b, none⟩ (.int .i64 (m1 : Nat))).drew := ⟨_, rfl⟩
    have kset : Chg wb wc (fun z => z = X.mb) := by rw [hwc]; exact (Chg.of_set wb X.mb b (.int .i64 (m1 : Nat))).post (Below.refl _ _).drew
    have f0 : Below wc.heap.size wc wc.drew := (Below.refl _ _).drew
    have kdr := Chg.of_below (fun _ => False) f0
    have ps0 := (Hb.ps.chg kset (fun z e => by rw [e]; omega)).chg kdr (fun _ e => e.elim)
    have rs0 := (Hb.rs.chg kset (fun z e => by rw [e]; omega)).chg kdr (fun _ e => e.elim)
    have ws0 : WS wc.drew X lab (updN mine b m1) := by
      have q := Hb.ws.set b m1
      have q2 := q.chg (Chg.of_below (fun _ => False) (Below.refl _ _).drew) (fun _ e => e.elim)
      rw [← hwc] at q2
      exact q2.chg kdr (fun _ e => e.elim)
    have chc : Chg w wc.drew (fun z => lab z ≠ 0) := (((Chg.of_below _ fb).trans kset (fun z _ e => by rw [e]; omega)).post f0)
    have hne : w.heap.size ≠ X.mb := fun e => by rw [e] at lb0; omega
    have x40 : wc.cell? ⟨w.heap.size, 4, none⟩ = some (.int .i64 (b : Int)) := kset.cell hbx.2.2.2.2 hne
    have s0 : wc.drew.cell? ⟨X.wd, 0, none⟩ = some (.pointer (some ⟨X.pg, 0, none⟩)) ∧ wc.drew.cell? ⟨w.heap.size, 4, none⟩ = some (.int .i64 (b : Int)) := ⟨ws0.wc.1, fresh_cell f0 x40⟩
    have HT1 : Hid (Calls Try.prog 19 #[.pointer (some ⟨X.pg, 0, none⟩), .int .i64 (b : Nat)] wc.drew fun e w5 => e = .returned (.int .i64 0) ∧ (w5.cell? ⟨X.wd, 0, none⟩ = some (.pointer (some ⟨X.pg, 0, none⟩)) ∧ w5.cell? ⟨w.heap.size, 4, none⟩ = some (.int .i64 (b : Int))) ∧ (w5.drew.cell? ⟨X.wd, 3, none⟩ = some (.pointer (some ⟨X.x.g, 0, none⟩)) ∧ w5.drew.cell? ⟨w.heap.size, 4, none⟩ = some (.int .i64 (b : Int))) ∧ Hid (PS w5 X lab L N (updN y.cnt b (y.cnt b - 1)) num ∧ RS w5 X lab L N y ∧ WS w5 X lab (updN mine b m1) ∧ w5.cell? ⟨w.heap.size, 4, none⟩ = some (.int .i64 (b : Int)) ∧ Chg w w5 (fun z => lab z ≠ 0))) := by
      refine (ps_drop_ok ps0 hb (by omega) (by omega)).mono ?_
      rintro e w5 ⟨rfl, a1, a2⟩
      have ws5 := ws0.chg a2 (fun z e => by have e : lab z = 2 := e; omega)
      have x5 := a2.cell s0.2 (fun e => by have e : lab w.heap.size = 2 := e; omega)
      exact ⟨rfl, ⟨ws5.wc.1, x5⟩, ⟨fresh_cell (Below.refl _ _).drew ws5.wc.2.1, fresh_cell (Below.refl _ _).drew x5⟩, a1, rs0.chg a2 (fun z e => by have e : lab z = 2 := e; omega), ws5, x5, chc.trans a2 (fun z _ e => by have e : lab z = 2 := e; omega)⟩
    have HT2 : Hid (∀ w5, Hid (PS w5 X lab L N (updN y.cnt b (y.cnt b - 1)) num ∧ RS w5 X lab L N y ∧ WS w5 X lab (updN mine b m1) ∧ w5.cell? ⟨w.heap.size, 4, none⟩ = some (.int .i64 (b : Int)) ∧ Chg w w5 (fun z => lab z ≠ 0)) → Calls Try.prog 71 #[.pointer (some ⟨X.x.g, 0, none⟩), .int .i64 (b : Nat)] w5.drew fun e w6 => e = .returned (.int .i64 0) ∧ (w6.cell? ⟨X.wd, 3, none⟩ = some (.pointer (some ⟨X.x.g, 0, none⟩)) ∧ w6.cell? ⟨w.heap.size, 4, none⟩ = some (.int .i64 (b : Int))) ∧ Hid (FinP w X lab bd w6)) := fun w5 A5 => by
      obtain ⟨hps, hrs, hws, x5, ch5⟩ := A5
      have f5 : Below w5.heap.size w5 w5.drew := (Below.refl _ _).drew
      have kk := Chg.of_below (fun _ => False) f5
      refine (rs_drop_ok (hrs.chg kk (fun _ e => e.elim)) hb (by omega) (by omega)).mono ?_
      rintro e w6 ⟨rfl, a1, a2⟩
      have ps6 := (hps.chg kk (fun _ e => e.elim)).chg a2 (fun z e => by have e : lab z = 5 := e; omega)
      have ws6 := (hws.chg kk (fun _ e => e.elim)).chg a2 (fun z e => by have e : lab z = 5 := e; omega)
      have x6 := a2.cell (fresh_cell f5 x5) (fun e => by have e : lab w.heap.size = 5 := e; omega)
      refine ⟨rfl, ⟨ws6.wc.2.1, x6⟩, lab, L, N, num, _, _, ⟨ps6, a1, ws6, ?_⟩, fun _ _ => rfl, (ch5.post f5).trans a2 (fun z _ e => by have e : lab z = 5 := e; omega)⟩
      exact h.inv.hold b (by omega) (by omega)
    have b0 : (0 : Int) ≤ (b : Int) := by omega
    have b1 : (b : Int) < (X.B : Int) := by omega
    obtain ⟨x0, x1, x2, x3, x4⟩ := hbx
    have HWC := hidd hwc
    clear h Hb fb hmb f0 hcb h0 hct kset kdr ps0 rs0 ws0 chc x40 hwc
    generalize mine b = mb0 at *
    clear hm1
    go_enter Try.func52, Try.ntmps52
    go_upto_region 1 with fail
    rw [← hwb]
    clear hwb
    go_wp2_with (first
      | (go_at_call 70; with_reducible refine HMI.out.mono ?_; rintro e w5 ⟨rfl, h5⟩; rw [h5]; clear h5))
    go_region
    rw [← HWC.out]
    clear HWC HMI
    go_upto_region 18 with fail
    go_region_held3 (fun w' => w'.cell? ⟨X.wd, 0, none⟩ = some (.pointer (some ⟨X.pg, 0, none⟩)) ∧ w'.cell? ⟨w.heap.size, 4, none⟩ = some (.int .i64 (b : Int)))
      (first | (with_reducible exact s0) | (with_reducible exact k5) | go_keep)
      (first | (go_at_call 19; with_reducible refine HT1.out.mono ?_; rintro e w5 ⟨rfl, k5, s5, A5⟩))
    all_goals
      clear HT1 s0 k5
      go_upto_region 19 with fail
      go_region_held3 (fun w' => w'.cell? ⟨X.wd, 3, none⟩ = some (.pointer (some ⟨X.x.g, 0, none⟩)) ∧ w'.cell? ⟨w.heap.size, 4, none⟩ = some (.int .i64 (b : Int)))
        (first | (with_reducible exact s5) | (with_reducible exact k6) | go_keep)
        (first | (go_at_call 71; with_reducible refine (HT2.out w5 A5).mono ?_; rintro e w6 ⟨rfl, k6, F6⟩))
      all_goals
        go_wp2
        go_ret
        exact F6.out.step
  · have HMI : Hid (Calls Try.prog 70 #[.pointer (some ⟨X.wd, 0, none⟩), .int .i64 n] wb fun e w' => e = .returned (.bool false) ∧ w' = wb) := by
      refine (mine_any Hb.ws n).mono ?_
      rintro e w' ⟨r, rfl, hr, hw⟩
      cases r with
      | true => exact absurd (hr.1 rfl) hz
      | false => exact ⟨rfl, hw⟩
    have HF := hidd (h.fin fb)
    obtain ⟨x0, x1, x2, x3, x4⟩ := hbx
    clear h Hb fb hz
    go_enter Try.func52, Try.ntmps52
    go_upto_region 1 with fail
    rw [← hwb]
    clear hwb
    go_wp2_with (first
      | (go_at_call 70; with_reducible refine HMI.out.mono ?_; rintro e w5 ⟨rfl, h5⟩; rw [h5]; clear h5))
    go_ret
    exact HF.out.step
end Go.Proofs.Ytaalinlggjimcaa
namespace Go.Proofs.Ytaalinlggjimcaa
open Go.RowKit
/-! step: any operation; a world without a pool. -/
theorem StepP.up {w wb w' : World} {X : Wx} {lab : Nat → Nat} {bd : Nat} {e : Ending} (h : StepP wb X lab bd e w') (f : Below w.heap.size w wb) : StepP w X lab bd e w' := by
  obtain ⟨h1, a, b, c, d, y, m, s, o, k⟩ := h
  exact ⟨h1, a, b, c, d, y, m, s, fun z hz => o z (Nat.lt_of_lt_of_le hz f.size), (Chg.of_below _ f).trans k (fun _ _ e => e)⟩
set_option maxRecDepth 20000 in
set_option maxHeartbeats 3200000 in
theorem step_take {w : World} {X : Wx} {lab : Nat → Nat} {L : Nat → List Nd} {N : Nat → Nat} {num : Nat → Int} {y : Ry} {mine : Nat → Nat} {bd : Nat} (h : St w X lab L N num y mine bd) (hbd : bd ≤ 1099511627776) (tO : Option Addr) (T cap : Nat) (bO : Option Addr) (m bcap : Nat) (n who : Int) {k : Nat} (hk : k < 2) (hr : who.tmod 2 = (k : Int) ∨ (who.tmod 2 = -1 ∧ k = 1)) :
    Calls Try.prog 28 #[.pointer (some ⟨X.wd, 0, none⟩), .agg #[.int .i64 1, .int .i64 who, .slice tO T cap, .slice bO m bcap, .int .i64 n]] w (StepP w X lab bd) := by
  obtain ⟨wb, hwb⟩ : ∃ wb, wb = w.alloc (.cells #[.int .i64 1, .int .i64 who, .slice tO T cap, .slice bO m bcap, .int .i64 n] 56) := ⟨_, rfl⟩
  have fb : Below w.heap.size w wb := by rw [hwb]; exact fresh_alloc _ _
  have hbx : Bx wb w.heap.size 1 who n (.slice tO T cap) (.slice bO m bcap) := by rw [hwb]; exact Bx.new _ _ _ _ _ _
  have Hb := h.fresh fb
  obtain ⟨c0, ck, c3, dk, c6⟩ := PS.cells Hb.ws
  have ckk := ck k hk
  have dkk := dk k hk
  have HAT : Hid (Calls Try.prog 52 #[.pointer (some ⟨X.wd, 0, none⟩), .agg #[.int .i64 1, .int .i64 who, .slice tO T cap, .slice bO m bcap, .int .i64 n]] wb fun e w' => e = .returned (.bool true) ∧ Hid (StepP w X lab bd (.returned (.bool true)) w')) := by
    refine (at_take Hb hbd tO T cap bO m bcap n who).mono ?_
    intro e w' hs
    have e0 := hs.1
    subst e0
    exact ⟨rfl, hs.up fb⟩
  obtain ⟨x0, x1, x2, x3, x4⟩ := hbx
  clear h Hb fb c0 c3 c6 ck dk
  rcases hr with hr | ⟨hr, rfl⟩
  · have hkd : decide ((k : Int) < 0) = false := by simp
    have k0 : (0 : Int) ≤ (k : Int) := by omega
    have k1 : (k : Int) < 2 := by omega
    go_enter Try.func28, Try.ntmps28
    go_upto_region 1 with fail
    rw [← hwb]
    clear hwb
    go_wp2_with (first
      | (go_at_call 52; with_reducible refine HAT.out.mono ?_; rintro e w5 ⟨rfl, A5⟩))
    go_ret
    exact A5.out
  · go_enter Try.func28, Try.ntmps28
    go_upto_region 1 with fail
    rw [← hwb]
    clear hwb
    go_wp2_with (first
      | (go_at_call 52; with_reducible refine HAT.out.mono ?_; rintro e w5 ⟨rfl, A5⟩))
    go_ret
    exact A5.out
set_option maxRecDepth 20000 in
set_option maxHeartbeats 3200000 in
theorem step_hold {w : World} {X : Wx} {lab : Nat → Nat} {L : Nat → List Nd} {N : Nat → Nat} {num : Nat → Int} {y : Ry} {mine : Nat → Nat} {bd : Nat} (h : St w X lab L N num y mine bd) (hbd : bd ≤ 1099511627776) (tO : Option Addr) (T cap : Nat) (bO : Option Addr) (m bcap : Nat) (n who : Int) {k : Nat} (hk : k < 2) (hr : who.tmod 2 = (k : Int) ∨ (who.tmod 2 = -1 ∧ k = 1)) :
    Calls Try.prog 28 #[.pointer (some ⟨X.wd, 0, none⟩), .agg #[.int .i64 2, .int .i64 who, .slice tO T cap, .slice bO m bcap, .int .i64 n]] w (StepP w X lab bd) := by
  obtain ⟨wb, hwb⟩ : ∃ wb, wb = w.alloc (.cells #[.int .i64 2, .int .i64 who, .slice tO T cap, .slice bO m bcap, .int .i64 n] 56) := ⟨_, rfl⟩
  have fb : Below w.heap.size w wb := by rw [hwb]; exact fresh_alloc _ _
  have hbx : Bx wb w.heap.size 2 who n (.slice tO T cap) (.slice bO m bcap) := by rw [hwb]; exact Bx.new _ _ _ _ _ _
  have Hb := h.fresh fb
  obtain ⟨c0, ck, c3, dk, c6⟩ := PS.cells Hb.ws
  have ckk := ck k hk
  have dkk := dk k hk
  have HAT : Hid (Calls Try.prog 52 #[.pointer (some ⟨X.wd, 0, none⟩), .agg #[.int .i64 2, .int .i64 who, .slice tO T cap, .slice bO m bcap, .int .i64 n]] wb fun e w' => e = .returned (.bool true) ∧ Hid (StepP w X lab bd (.returned (.bool true)) w')) := by
    refine (at_hold Hb hbd tO T cap bO m bcap n who).mono ?_
    intro e w' hs
    have e0 := hs.1
    subst e0
    exact ⟨rfl, hs.up fb⟩
  obtain ⟨x0, x1, x2, x3, x4⟩ := hbx
  clear h Hb fb c0 c3 c6 ck dk
  rcases hr with hr | ⟨hr, rfl⟩
  · have hkd : decide ((k : Int) < 0) = false := by simp
    have k0 : (0 : Int) ≤ (k : Int) := by omega
    have k1 : (k : Int) < 2 := by omega
    go_enter Try.func28, Try.ntmps28
    go_upto_region 1 with fail
    rw [← hwb]
    clear hwb
    go_wp2_with (first
      | (go_at_call 52; with_reducible refine HAT.out.mono ?_; rintro e w5 ⟨rfl, A5⟩))
    go_ret
    exact A5.out
  · go_enter Try.func28, Try.ntmps28
    go_upto_region 1 with fail
    rw [← hwb]
    clear hwb
    go_wp2_with (first
      | (go_at_call 52; with_reducible refine HAT.out.mono ?_; rintro e w5 ⟨rfl, A5⟩))
    go_ret
    exact A5.out
set_option maxRecDepth 20000 in
set_option maxHeartbeats 3200000 in
theorem step_drop {w : World} {X : Wx} {lab : Nat → Nat} {L : Nat → List Nd} {N : Nat → Nat} {num : Nat → Int} {y : Ry} {mine : Nat → Nat} {bd : Nat} (h : St w X lab L N num y mine bd) (hbd : bd ≤ 1099511627776) (tO : Option Addr) (T cap : Nat) (bO : Option Addr) (m bcap : Nat) (n who : Int) {k : Nat} (hk : k < 2) (hr : who.tmod 2 = (k : Int) ∨ (who.tmod 2 = -1 ∧ k = 1)) :
    Calls Try.prog 28 #[.pointer (some ⟨X.wd, 0, none⟩), .agg #[.int .i64 3, .int .i64 who, .slice tO T cap, .slice bO m bcap, .int .i64 n]] w (StepP w X lab bd) := by
  obtain ⟨wb, hwb⟩ : ∃ wb, wb = w.alloc (.cells #[.int .i64 3, .int .i64 who, .slice tO T cap, .slice bO m bcap, .int .i64 n] 56) := ⟨_, rfl⟩
  have fb : Below w.heap.size w wb := by rw [hwb]; exact fresh_alloc _ _
  have hbx : Bx wb w.heap.size 3 who n (.slice tO T cap) (.slice bO m bcap) := by rw [hwb]; exact Bx.new _ _ _ _ _ _
  have Hb := h.fresh fb
  obtain ⟨c0, ck, c3, dk, c6⟩ := PS.cells Hb.ws
  have ckk := ck k hk
  have dkk := dk k hk
  have HAT : Hid (Calls Try.prog 52 #[.pointer (some ⟨X.wd, 0, none⟩), .agg #[.int .i64 3, .int .i64 who, .slice tO T cap, .slice bO m bcap, .int .i64 n]] wb fun e w' => e = .returned (.bool true) ∧ Hid (StepP w X lab bd (.returned (.bool true)) w')) := by
    refine (at_drop Hb hbd tO T cap bO m bcap n who).mono ?_
    intro e w' hs
    have e0 := hs.1
    subst e0
    exact ⟨rfl, hs.up fb⟩
  obtain ⟨x0, x1, x2, x3, x4⟩ := hbx
  clear h Hb fb c0 c3 c6 ck dk
  rcases hr with hr | ⟨hr, rfl⟩
  · have hkd : decide ((k : Int) < 0) = false := by simp
    have k0 : (0 : Int) ≤ (k : Int) := by omega
    have k1 : (k : Int) < 2 := by omega
    go_enter Try.func28, Try.ntmps28
    go_upto_region 1 with fail
    rw [← hwb]
    clear hwb
    go_wp2_with (first
      | (go_at_call 52; with_reducible refine HAT.out.mono ?_; rintro e w5 ⟨rfl, A5⟩))
    go_ret
    exact A5.out
  · go_enter Try.func28, Try.ntmps28
    go_upto_region 1 with fail
    rw [← hwb]
    clear hwb
    go_wp2_with (first
      | (go_at_call 52; with_reducible refine HAT.out.mono ?_; rintro e w5 ⟨rfl, A5⟩))
    go_ret
    exact A5.out
theorem who_two (who : Int) : ∃ k : Nat, k < 2 ∧ (who.tmod 2 = (k : Int) ∨ (who.tmod 2 = -1 ∧ k = 1)) := by
  have h1 := Int.tmod_lt_of_pos who (show (0 : Int) < 2 by decide)
  have h2 : -2 < who.tmod 2 := Int.lt_tmod_of_pos who (by decide)
  by_cases e0 : who.tmod 2 = 0
  · exact ⟨0, by decide, .inl (by rw [e0]; rfl)⟩
  · by_cases e1 : who.tmod 2 = 1
    · exact ⟨1, by decide, .inl (by rw [e1]; rfl)⟩
    · exact ⟨1, by decide, .inr ⟨by omega, rfl⟩⟩
theorem step_any {w : World} {X : Wx} {lab : Nat → Nat} {L : Nat → List Nd} {N : Nat → Nat} {num : Nat → Int} {y : Ry} {mine : Nat → Nat} {bd : Nat} (h : St w X lab L N num y mine bd) (hbd : bd ≤ 1099511627776) {tO : Option Addr} {T cap : Nat} {t : Nat → Int} (ht : OpAt w lab tO T cap t) {bO : Option Addr} {m bcap : Nat} {g : Nat → Int} (hb : OpAt w lab bO m bcap g) (kind who n : Int) (hZ : ∀ k : Nat, k < 2 → (who.tmod 2 = (k : Int) ∨ (who.tmod 2 = -1 ∧ k = 1)) → X.Z k) :
    Calls Try.prog 28 #[.pointer (some ⟨X.wd, 0, none⟩), .agg #[.int .i64 kind, .int .i64 who, .slice tO T cap, .slice bO m bcap, .int .i64 n]] w (StepP w X lab bd) := by
  obtain ⟨k, hk, hr⟩ := who_two who
  by_cases h0 : kind < 1 ∨ 7 < kind
  · exact step_other h tO T cap bO m bcap kind n who h0 hk hr
  · have hc : kind = 1 ∨ kind = 2 ∨ kind = 3 ∨ kind = 4 ∨ kind = 5 ∨ kind = 6 ∨ kind = 7 := by omega
    rcases hc with rfl | rfl | rfl | rfl | rfl | rfl | rfl
    · exact step_take h hbd tO T cap bO m bcap n who hk hr
    · exact step_hold h hbd tO T cap bO m bcap n who hk hr
    · exact step_drop h hbd tO T cap bO m bcap n who hk hr
    · exact step_find h hbd ht _ n who hk hr (hZ k hk hr)
    · exact step_keep h hbd ht hb n who hk hr (hZ k hk hr)
    · exact step_shrink h tO T cap bO m bcap n who hk hr (hZ k hk hr)
    · exact step_len h tO T cap bO m bcap n who hk hr
end Go.Proofs.Ytaalinlggjimcaa
