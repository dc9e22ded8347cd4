import Derived.Test.YtaalinlggjimcaaKU
namespace Go.Proofs.Ytaalinlggjimcaa
open Go.RowKit
/-! Keep on both sides, one behind the other: the second call's contract stands in what the first leaves. -/
section
variable {w : World} {X : Wx} {lab : Nat → Nat} {L : Nat → List Nd} {N : Nat → Nat} {num : Nat → Int} {y : Ry} {mine : Nat → Nat} {bd : Nat}
/-- what both sides' calls leave -/
def BothP (w : World) (X : Wx) (lab : Nat → Nat) (num : Nat → Int) (mine : Nat → Nat) (bd : Nat) (w' : World) : Prop := ∃ lab' L' N' y', St w' X lab' L' N' num y' mine bd ∧ (∀ z, z < w.heap.size → lab' z = lab z) ∧ Chg w w' (fun z => lab z ≠ 0)
theorem both_keep (h : St w X lab L N num y mine bd) (hbd : bd ≤ 1099511627776) {tO : Option Addr} {T cap : Nat} {t : Nat → Int} (ht : OpAt w lab tO T cap t) {bO : Option Addr} {m bcap : Nat} {g : Nat → Int} (hb : OpAt w lab bO m bcap g) {sO : Option Addr} {scap : Nat} (hs : RdA w sO 1 T scap (fun i => .int .i64 (t i))) {base : Nat} {v : Value} (ho : Own w base 3 1 v m (fun i => .int .i64 (g i))) (hv : ∀ z, v.ownBlock = some z → lab z = 0) {k : Nat} (hk : k < 2) (hZ : X.Z k) :
    Calls Try.prog 12 #[.pointer (some ⟨(X.c k).C, 0, none⟩), .slice sO T scap, v] w fun e w1 => ∃ c : Int, e = .returned (.int .i64 c) ∧ Chg w w1 (fun z => lab z ≠ 0) ∧ Hid (Calls Try.prog 30 #[.pointer (some ⟨X.D k, 0, none⟩), .slice tO T cap, .slice bO m bcap] w1 fun e' w2 => e' = .returned (.int .i64 c) ∧ Hid (BothP w X lab num mine (bd + 1) w2)) := by
  have hNk : N k ≤ 4611686018427387904 := by have := h.inv.bN k hk; omega
  have hcnt : ∀ b, y.cnt b ≤ 1152921504606846976 := fun b => by have := h.inv.cnt b; omega
  obtain ⟨q, b0, o0, hl⟩ := Long.exists (C := (X.c k).C) (L := L k) (pcL t X.S (T / X.S))
  have hwl := (h.ps.ca k hk).well
  refine (ps_keepO h.ps h.ws.low hk hNk hs ht.fit ho hv hcnt rfl hl).mono ?_
  rintro e w7 (⟨rfl, hbad, f7⟩ | ⟨rfl, hbad, lab1, L1, news, hE, hps, hlab, hch⟩)
  · refine ⟨61, rfl, Chg.of_below _ f7, ?_⟩
    have s7 := h.fresh f7
    have o7 := ht.fresh f7
    have p7 := hb.fresh f7
    refine Calls.mono (rs_keep s7.rs s7.ws.low hk hwl (h.ps.cc k hk).2.2 (h.inv.cut k hk) hNk o7.rd o7.off o7.le p7.rd p7.off hcnt rfl hl) ?_
    rintro e w8 (⟨rfl, _, f8⟩ | ⟨_, hnb, _⟩)
    · have s8 := s7.fresh f8
      exact ⟨rfl, lab, L, N, y, ⟨s8.ps, s8.rs, s8.ws, s8.inv.more⟩, fun _ _ => rfl, Chg.of_below _ (f7.trans (f8.mono f7.size))⟩
    · exact absurd hbad hnb
  · have lcb := h.ps.lp.2.1
    have ch0 : Chg w w7 (fun z => lab z ≠ 0) := hch.imp (fun z _ e => by
      rcases e with e | e
      · omega
      · rw [e]; omega)
    have hw7 : ∀ z, (lab z = 3 + k ∨ z = X.cb) → 2 ≤ lab z ∧ lab z ≤ 4 := fun z e => by
      rcases e with e | e
      · omega
      · rw [e]; omega
    refine ⟨0, rfl, ch0, ?_⟩
    have hrs := (h.rs.chg hch (fun z e => by have := hw7 z e; omega)).relab (lab' := lab1) (fun u h1 h2 => hlab.other u (by omega) (by omega))
    have hws := (h.ws.chg hch (fun z e => by have := hw7 z e; omega)).relab (lab' := lab1) (hlab.other 1 (by omega) (by omega)) hlab.low
    have hnob : Nobodys (L k) (fun i => (g (q + i)).toNat) (T / X.S - q) := by
      have hz : ∀ i, i < T / X.S → cntI y.cnt X.B (g i) ≠ 0 := fun i hi e => hbad (.inr (.inl ⟨i, hi, e⟩))
      have hg : ∀ i, i < T / X.S → g i = ((g i).toNat : Int) := fun i hi => by
        have := hz i hi
        unfold cntI at this
        by_cases e : 0 ≤ g i ∧ g i < X.B
        · omega
        · rw [if_neg e] at this
          exact absurd rfl this
      refine ⟨fun i hi z hz e => hbad (.inr (.inr ⟨q + i, by omega, by omega, .inl ⟨z, hz, ?_⟩⟩)), fun i j h1 h2 e => hbad (.inr (.inr ⟨q + i, by omega, by omega, .inr ⟨q + j, by omega, by omega, ?_⟩⟩))⟩
      · have e : z.blk = (g (q + i)).toNat := e
        rw [hg (q + i) (by omega), e]
      · have e : (g (q + i)).toNat = (g (q + j)).toNat := e
        rw [hg (q + i) (by omega), hg (q + j) (by omega), e]
    have hqn : q ≤ T / X.S := by have := hl.le; rw [pcL_len] at this; exact this
    have off1 : ∀ {aO : Option Addr} {A ac : Nat} {a : Nat → Int}, OpAt w lab aO A ac a → OpAt w7 lab1 aO A ac a := fun {aO A ac a} o => by
      have o7 := o.chg ch0
      refine ⟨o7.rd, o7.fit, fun h0 b o' eq => ?_, o7.le⟩
      obtain ⟨b1, o1, e1, hc⟩ := o.rd.at_ h0
      rw [eq] at e1
      injection e1 with e1
      injection e1 with e1 _
      subst e1
      rw [hlab.old b (lt_of_cell (hc 0 (by omega)))]
      exact o.off h0 b o' eq
    have o7 := off1 ht
    have p7 := off1 hb
    have hold := hlab.old
    refine Calls.mono (rs_keep hrs hws.low hk hwl (h.ps.cc k hk).2.2 (h.inv.cut k hk) hNk o7.rd o7.off o7.le p7.rd p7.off hcnt rfl hl) ?_
    rintro e w8 (⟨_, hb8, _⟩ | ⟨rfl, _, lab2, hrs8, hlab2, hch8⟩)
    · exact absurd hb8 hbad
    · have lcb := hrs.lr.2.1
      have hw8 : ∀ z, (lab1 z = 6 + k ∨ z = X.x.cb) → 5 ≤ lab1 z ∧ lab1 z ≤ 7 := fun z e => by
        rcases e with e | e
        · omega
        · rw [e]; omega
      have ch8 : Chg w7 w8 (fun z => lab1 z ≠ 0) := hch8.imp (fun z _ e => by have := hw8 z e; omega)
      have ps8 := (hps.chg hch8 (fun z e => by have := hw8 z e; omega)).relab (lab' := lab2) (fun u h1 h2 => hlab2.other u (by omega) (by omega))
      have ws8 := (hws.chg hch8 (fun z e => by have := hw8 z e; omega)).relab (lab' := lab2) (hlab2.other 1 (by omega) (by omega)) hlab2.low
      have hsz : w.heap.size ≤ w7.heap.size := ch0.size
      refine ⟨rfl, lab2, _, _, _, ⟨ps8, hrs8 L1 news hE, ws8, ?_⟩, fun z hz => (hlab2.old z (by omega)).trans (hold z hz), ch0.trans ch8 (fun z hz e => by rw [← hold z hz]; exact e)⟩
      refine h.inv.step hk hZ (((h.inv.cut k hk).ext hE (by omega)).use _ _) (Tie.use (h.inv.tie k hk) hwl.used (fun z hz => ?_)) (by have := h.inv.bN k hk; omega) (fun b => by rw [hs_use]; exact ext_bal hE hnob y.cnt b)
      rcases hE.mem hz with e | ⟨i, hi, e, _⟩
      · exact .inl e
      · refine .inr ⟨?_, ?_⟩
        · rw [e, List.length_take, pcL_len, Nat.min_eq_left (by omega)]
        · rw [e, List.length_take, pcL_len]; omega
end
end Go.Proofs.Ytaalinlggjimcaa
namespace Go.Proofs.Ytaalinlggjimcaa
open Go.RowKit
/-! Finds on both sides, in any order. -/
theorem Long.use {C : Nat} {L : List Nd} {P : List (List Int)} {k b o : Nat} (h : Long C L P k b o) (p : List (List Int)) (n : Nat) : Long C (useL L p n) P k b o :=
  ⟨h.le, (mkF_same p 0 n).adr h.adr, fun j h1 h2 x hx => by
    obtain ⟨y, hy, rfl⟩ := List.mem_map.1 hx
    rw [(mkF_same p 0 n).path]
    exact h.no j h1 h2 y hy⟩
theorem bkF_use {c : Ca} {L : List Nd} {N N' : Nat} {P p : List (List Int)} {n k b o j : Nat} (hw : Well c L N) (hw' : Well c (useL L p n) N') (h : Long c.C L P k b o) (hj : j < k) : bkF (useL L p n) P j = bkF L P j := by
  obtain ⟨x, hx, e⟩ := h.at hw hj
  have s := mkF_same p 0 n
  rw [bkF_eq hw hx e, bkF_eq hw' (List.mem_map_of_mem hx) (x := mkF p 0 n x) (by rw [s.path]; exact e), s.blk]
section
variable {w wr : World} {X : Wx} {lab : Nat → Nat} {La Lb L : Nat → List Nd} {Na Nb N : Nat → Nat} {num : Nat → Int} {y : Ry} {mine : Nat → Nat} {bd : Nat}
def useS (L : Nat → List Nd) (N : Nat → Nat) (k : Nat) (p : List (List Int)) : Nat → List Nd := setF L k (useL (L k) p (N k + 1))
def nextS (N : Nat → Nat) (k : Nat) : Nat → Nat := setF N k (N k + 1)
/-- both sides, each with its own list -/
structure Fd (w wr : World) (X : Wx) (lab : Nat → Nat) (La : Nat → List Nd) (Na : Nat → Nat) (Lb : Nat → List Nd) (Nb : Nat → Nat) (num : Nat → Int) (y : Ry) (mine : Nat → Nat) : Prop where
  ps : PS wr X lab La Na y.cnt num
  rs : RS wr X lab Lb Nb y
  ws : WS wr X lab mine
  chg : Chg w wr (fun z => lab z ≠ 0)
theorem Fd.fresh (h : Fd w wr X lab La Na Lb Nb num y mine) {w' : World} (f : Below wr.heap.size wr w') : Fd w w' X lab La Na Lb Nb num y mine := by
  have k := Chg.of_below (fun _ => False) f
  exact ⟨h.ps.chg k (fun _ e => e.elim), h.rs.chg k (fun _ e => e.elim), h.ws.chg k (fun _ e => e.elim), h.chg.post f⟩
theorem Fd.of (h : St w X lab L N num y mine bd) : Fd w w X lab L N L N num y mine := ⟨h.ps, h.rs, h.ws, Chg.refl _ _⟩
theorem Fd.st (h : Fd w wr X lab L N L N num y mine) (hi : Inv X L N y.cnt mine bd) : St wr X lab L N num y mine bd := ⟨h.ps, h.rs, h.ws, hi⟩
theorem Inv.find {c : Ca} {N' : Nat} {cnt : Nat → Nat} (h : Inv X L N cnt mine bd) {k : Nat} (hk : k < 2) (hZ : X.Z k) (hw : Well c (L k) N') (hN : N' ≤ N k) (p : List (List Int)) : Inv X (useS L N k p) (nextS N k) cnt mine (bd + 1) :=
  h.step hk hZ ((h.cut k hk).use _ _) (Tie.use (h.tie k hk) (fun x hx => Nat.le_trans (hw.used x hx) hN) (fun y hy => .inl hy)) (by have := h.bN k hk; omega) (fun b => by rw [hs_use])
theorem Fd.pfind (h : Fd w wr X lab La Na Lb Nb num y mine) {k : Nat} (hk : k < 2) (hN : Na k ≤ 4611686018427387904) {tO : Option Addr} {T cap : Nat} {t : Nat → Int} (ht : RdA wr tO 1 T cap (fun i => .int .i64 (t i))) (hfit : ∀ i, i < T → fits (t i)) :
    Calls Try.prog 11 #[.pointer (some ⟨(X.c k).C, 0, none⟩), .slice tO T cap] wr fun e w' => ∃ q g, e = .returned (.slice (some ⟨g, 0, none⟩) q q) ∧ Hid (∃ b o, Long (X.c k).C (La k) (pcL t X.S (T / X.S)) q b o ∧ w'.rowIs g 3 q (fun j => .int .i64 (bkF (La k) (pcL t X.S (T / X.S)) j : Nat)) ∧ wr.heap.size ≤ g ∧ lab g = 0 ∧ Chg wr w' (fun z => lab z ≠ 0) ∧ Fd w w' X lab (useS La Na k ((pcL t X.S (T / X.S)).take q)) (nextS Na k) Lb Nb num y mine) := by
  refine (ps_find h.ps hk hN ht hfit).mono ?_
  rintro e w' ⟨q, b, o, g, rfl, hl, hr, hg, hps, hch⟩
  have ch0 : Chg wr w' (fun z => lab z ≠ 0) := hch.imp (fun z _ e => by have e : lab z = 3 + k := e; omega)
  refine ⟨q, g, rfl, b, o, hl, hr, hg, Classical.not_not.1 (fun e => absurd (h.ws.low g e) (by omega)), ch0, hps, h.rs.chg hch (fun z e => by have e : lab z = 3 + k := e; omega), h.ws.chg hch (fun z e => by have e : lab z = 3 + k := e; omega), h.chg.trans ch0 (fun _ _ e => e)⟩
theorem Fd.rfind (h : Fd w wr X lab La Na Lb Nb num y mine) {k : Nat} (hk : k < 2) {c : Ca} {N' : Nat} (hw : Well c (Lb k) N') (hc : Cut X.S (Lb k)) (hN : Nb k ≤ 4611686018427387904) {tO : Option Addr} {T cap : Nat} {t : Nat → Int} (ht : OpAt wr lab tO T cap t) {q bb oo : Nat} (hl : Long c.C (Lb k) (pcL t X.S (T / X.S)) q bb oo) :
    Calls Try.prog 32 #[.pointer (some ⟨X.D k, 0, none⟩), .slice tO T cap] wr fun e w' => ∃ vo vc, e = .returned (.slice vo q vc) ∧ Hid (RdA w' vo 1 q vc (fun j => .int .i64 (bkF (Lb k) (pcL t X.S (T / X.S)) j : Nat)) ∧ (∀ z, (Value.slice vo q vc).ownBlock = some z → wr.heap.size ≤ z ∧ lab z = 0) ∧ Chg wr w' (fun z => lab z ≠ 0) ∧ Fd w w' X lab La Na (useS Lb Nb k ((pcL t X.S (T / X.S)).take q)) (nextS Nb k) num y mine) := by
  refine (rs_find h.rs hk hw hc hN ht.rd ht.off hl).mono ?_
  rintro e w' ⟨vl, rfl, hown, hrs, hch⟩
  have ch0 : Chg wr w' (fun z => lab z ≠ 0) := hch.imp (fun z _ e => by have e : lab z = 6 + k := e; omega)
  have hlt := hown.lt
  obtain ⟨vo, vc, rfl, hrd⟩ := hown.rd
  refine ⟨vo, vc, rfl, hrd, fun z hz => ⟨(hlt z hz).1, Classical.not_not.1 (fun e => absurd (h.ws.low z e) (by have := (hlt z hz).1; omega))⟩, ch0, h.ps.chg hch (fun z e => by have e : lab z = 6 + k := e; omega), hrs, h.ws.chg hch (fun z e => by have e : lab z = 6 + k := e; omega), h.chg.trans ch0 (fun _ _ e => e)⟩
end
end Go.Proofs.Ytaalinlggjimcaa
namespace Go.Proofs.Ytaalinlggjimcaa
open Go.RowKit
/-! A round of PrefixLists: what is changed besides the two sides is new. -/
section
variable {w wr w' : World} {X : Wx} {lab : Nat → Nat} {La Lb L : Nat → List Nd} {Na Nb N : Nat → Nat} {num : Nat → Int} {y : Ry} {mine : Nat → Nat} {bd : Nat}
theorem Fd.off (h : Fd w wr X lab La Na Lb Nb num y mine) {T : Nat → Prop} (c : Chg wr w' T) (hT : ∀ z, T z → lab z = 0 ∧ w.heap.size ≤ z) : Fd w w' X lab La Na Lb Nb num y mine :=
  ⟨h.ps.chg c (fun z e => by have := (hT z e).1; omega), h.rs.chg c (fun z e => by have := (hT z e).1; omega), h.ws.chg c (fun z e => by have := (hT z e).1; omega), h.chg.trans c (fun z hz e => absurd (hT z e).2 (by omega))⟩
theorem Fd.lab0 (h : Fd w wr X lab La Na Lb Nb num y mine) {z : Nat} (hz : wr.heap.size ≤ z) : lab z = 0 := Classical.not_not.1 (fun e => absurd (h.ws.low z e) (by omega))
/-- a list of the round's own is written full -/
theorem Fd.over (h : Fd w wr X lab La Na Lb Nb num y mine) {v : Value} {n : Nat} {cs : Nat → Value} (ho : Own wr 0 3 1 v n cs) (hv : ∀ z, v.ownBlock = some z → lab z = 0 ∧ w.heap.size ≤ z) (hn : n ≤ 2147483647) {mark : Int} (m1 : -1099511627776 ≤ mark) (m2 : mark ≤ 1099511627776) :
    Calls Try.prog 31 #[v, .int .i64 mark] wr fun e w' => e = .returned (.tuple #[]) ∧ Hid (Rd w' v 1 n (fun _ => .int .i64 mark) ∧ Chg wr w' (fun z => v.ownBlock = some z) ∧ Fd w w' X lab La Na Lb Nb num y mine) := by
  refine (over_any ho hn m1 m2).mono ?_
  rintro e w' ⟨rfl, hr, hc⟩
  exact ⟨rfl, hr, hc, h.off hc hv⟩
/-- a copy of one of the script's lists -/
theorem Fd.copy (h : Fd w wr X lab La Na Lb Nb num y mine) {ao : Option Addr} {n cap : Nat} {f : Nat → Int} (hr : RdA wr ao 1 n cap (fun i => .int .i64 (f i))) (hn : n ≤ 2147483647) :
    Calls Try.prog 21 #[.slice ao n cap] wr fun e w' => ∃ u uc, e = .returned (.slice u n uc) ∧ Hid (Own w' 0 3 1 (.slice u n uc) n (fun i => .int .i64 (f i)) ∧ (∀ z, (Value.slice u n uc).ownBlock = some z → lab z = 0 ∧ wr.heap.size ≤ z ∧ w.heap.size ≤ z) ∧ Below wr.heap.size wr w' ∧ Fd w w' X lab La Na Lb Nb num y mine) := by
  refine (copyI_own hr (by omega)).mono ?_
  rintro e w' ⟨u, uc, rfl, ho, f'⟩
  have hs := h.chg.size
  refine ⟨u, uc, rfl, ho.weaken (Nat.zero_le _), fun z hz => ?_, f', h.fresh f'⟩
  have := (ho.lt z hz).1
  exact ⟨h.lab0 this, this, by omega⟩
/-- St, when the round ends -/
theorem Fd.ends (h : Fd w wr X lab L N L N num y mine) (hi : Inv X L N y.cnt mine bd) {v : Value} {m : Nat} {E : Nat → Value} {l : Nat → Nat} {K : Nat → Int} {wd : Nat} (e : X.wd = wd) {a : World} (hb : Below a.heap.size a wr) (ha : ∀ z, lab z ≠ 0 → a.heap.size ≤ z) (mk : Mk wr lab v m E l K) : WoM X.Z a wr wd bd v m l :=
  ⟨hb, .inr ⟨X, lab, L, N, num, y, mine, E, K, e, rfl, h.st hi, ha, mk⟩⟩
end
end Go.Proofs.Ytaalinlggjimcaa
namespace Go.Proofs.Ytaalinlggjimcaa
open Go.RowKit
/-! A round of PrefixLists: Keep on both sides; two answers held against each other. -/
section
variable {w wr : World} {X : Wx} {lab : Nat → Nat} {L : Nat → List Nd} {N : Nat → Nat} {num : Nat → Int} {y : Ry} {mine : Nat → Nat} {bd : Nat}
theorem Fd.keep (h : Fd w wr X lab L N L N num y mine) (hi : Inv X L N y.cnt mine bd) (hbd : bd ≤ 1099511627776) {tO : Option Addr} {T cap : Nat} {t : Nat → Int} (ht : OpAt wr lab tO T cap t) {bO : Option Addr} {m bcap : Nat} {g : Nat → Int} (hb : OpAt wr lab bO m bcap g) {sO : Option Addr} {scap : Nat} (hs : RdA wr sO 1 T scap (fun i => .int .i64 (t i))) {base : Nat} {v : Value} (ho : Own wr base 3 1 v m (fun i => .int .i64 (g i))) (hv : ∀ z, v.ownBlock = some z → lab z = 0) {k : Nat} (hk : k < 2) (hZ : X.Z k) :
    Calls Try.prog 12 #[.pointer (some ⟨(X.c k).C, 0, none⟩), .slice sO T scap, v] wr fun e w5 => ∃ c : Int, e = .returned (.int .i64 c) ∧ Chg w w5 (fun z => lab z ≠ 0) ∧ Hid (Calls Try.prog 30 #[.pointer (some ⟨X.D k, 0, none⟩), .slice tO T cap, .slice bO m bcap] w5 fun e' w6 => e' = .returned (.int .i64 c) ∧ Hid (∃ lab' L' N' y', Fd w w6 X lab' L' N' L' N' num y' mine ∧ Inv X L' N' y'.cnt mine (bd + 1) ∧ (∀ z, z < wr.heap.size → lab' z = lab z) ∧ Chg wr w6 (fun z => lab z ≠ 0))) := by
  have hsz := h.chg.size
  refine (both_keep (h.st hi) hbd ht hb hs ho hv hk hZ).mono ?_
  rintro e w5 ⟨c, rfl, hc, hk2⟩
  refine ⟨c, rfl, h.chg.trans hc (fun _ _ e => e), Calls.mono hk2 ?_⟩
  rintro e w6 ⟨rfl, lab', L', N', y', st, hold, ch⟩
  exact ⟨rfl, lab', L', N', y', ⟨st.ps, st.rs, st.ws, (h.chg.trans ch (fun _ _ e => e)).imp (fun z hz e => by rw [hold z (by omega)]; exact e)⟩, st.inv, hold, ch⟩
/-- the two answers of one question, asked of both sides -/
theorem eq_rows {w : World} {ao bo : Option Addr} {q c1 c2 : Nat} {f : Nat → Int} (h1 : RdA w ao 1 q c1 (fun j => .int .i64 (f j))) (h2 : RdA w bo 1 q c2 (fun j => .int .i64 (f j))) : Calls Try.prog 29 #[.slice ao q c1, .slice bo q c2] w fun e w' => e = .returned (.bool true) ∧ Below w.heap.size w w' := by
  refine (eqInts_any h1 h2).mono ?_
  rintro e w8 ⟨⟨r, rfl, hr⟩, f8⟩
  have : r = true := hr.2 ⟨rfl, fun _ _ => rfl⟩
  subst this
  exact ⟨rfl, f8⟩
end
end Go.Proofs.Ytaalinlggjimcaa
namespace Go.Proofs.Ytaalinlggjimcaa
open Go.RowKit
/-! A round of PrefixLists: Finds by pairs, what they answer. -/
section
variable {wb w : World} {X : Wx} {lab : Nat → Nat} {L : Nat → List Nd} {N : Nat → Nat} {num : Nat → Int} {y : Ry} {mine : Nat → Nat} {bd : Nat}
theorem row_rd {w : World} {g q : Nat} {f : Nat → Value} (h : w.rowIs g 3 q f) (hq : q ≤ maxLen) : RdA w (some ⟨g, 0, none⟩) 1 q q f := ⟨Nat.le_refl _, hq, fun _ => ⟨g, 0, rfl, fun j hj => by rw [Nat.zero_add]; exact h.cell (by omega)⟩⟩
/-- both sides in step, and what a text's Find answers -/
def Snc (wb w : World) (X : Wx) (lab : Nat → Nat) (num : Nat → Int) (y : Ry) (mine : Nat → Nat) (bd : Nat) (P : List (List Int)) (q : Nat) (B : Nat → Nat) : Prop := ∃ L N, Fd wb w X lab L N L N num y mine ∧ Inv X L N y.cnt mine bd ∧ (∃ b o, Long (X.c 0).C (L 0) P q b o) ∧ ∀ j, j < q → bkF (L 0) P j = B j
theorem useS_at (L : Nat → List Nd) (N : Nat → Nat) (p : List (List Int)) : useS L N 0 p 0 = useL (L 0) p (N 0 + 1) := by simp [useS, setF]
theorem nextS_at (N : Nat → Nat) : nextS N 0 0 = N 0 + 1 := by simp [nextS, setF]
theorem Snc.fd {P : List (List Int)} {q : Nat} {B : Nat → Nat} (h : Snc wb w X lab num y mine bd P q B) : ∃ L N, Fd wb w X lab L N L N num y mine := by
  obtain ⟨L, N, h1, _⟩ := h
  exact ⟨L, N, h1⟩
theorem Snc.off {P : List (List Int)} {q : Nat} {B : Nat → Nat} (h : Snc wb w X lab num y mine bd P q B) {w' : World} {T : Nat → Prop} (c : Chg w w' T) (hT : ∀ z, T z → lab z = 0 ∧ wb.heap.size ≤ z) : Snc wb w' X lab num y mine bd P q B := by
  obtain ⟨L, N, h1, h2⟩ := h
  exact ⟨L, N, h1.off c hT, h2⟩
theorem Snc.fresh {P : List (List Int)} {q : Nat} {B : Nat → Nat} (h : Snc wb w X lab num y mine bd P q B) {w' : World} (f : Below w.heap.size w w') : Snc wb w' X lab num y mine bd P q B := by
  obtain ⟨L, N, h1, h2⟩ := h
  exact ⟨L, N, h1.fresh f, h2⟩
theorem Snc.chg {P : List (List Int)} {q : Nat} {B : Nat → Nat} (h : Snc wb w X lab num y mine bd P q B) : Chg wb w (fun z => lab z ≠ 0) := by
  obtain ⟨L, N, h1, _⟩ := h
  exact h1.chg
theorem Snc.lab0 {P : List (List Int)} {q : Nat} {B : Nat → Nat} (h : Snc wb w X lab num y mine bd P q B) {z : Nat} (hz : w.heap.size ≤ z) : lab z = 0 := by
  obtain ⟨L, N, h1, _⟩ := h
  exact h1.lab0 hz
theorem Snc.more {P : List (List Int)} {q : Nat} {B : Nat → Nat} (h : Snc wb w X lab num y mine bd P q B) : Snc wb w X lab num y mine (bd + 1) P q B := by
  obtain ⟨L, N, h1, h2, h3⟩ := h
  exact ⟨L, N, h1, h2.more, h3⟩
set_option maxHeartbeats 800000 in
/-- a Find of the program, then one of the reference of the same text -/
theorem find2 {P : List (List Int)} {q : Nat} {B : Nat → Nat} (S : Snc wb w X lab num y mine bd P q B) (hZ : X.Z 0) (hbd : bd ≤ 1099511627776) {sO : Option Addr} {T scap : Nat} {t : Nat → Int} (ht : RdA w sO 1 T scap (fun i => .int .i64 (t i))) (hfit : ∀ i, i < T → fits (t i)) :
    Calls Try.prog 11 #[.pointer (some ⟨(X.c 0).C, 0, none⟩), .slice sO T scap] w fun e w1 => ∃ q2 g, e = .returned (.slice (some ⟨g, 0, none⟩) q2 q2) ∧ Chg w w1 (fun z => lab z ≠ 0) ∧ Hid (w.heap.size ≤ g ∧ lab g = 0 ∧ (∀ z, w1.heap.size ≤ z → lab z = 0) ∧ Chg wb w1 (fun z => lab z ≠ 0) ∧
      ∀ w1', Below w1.heap.size w1 w1' → ∀ rO rc, OpAt w1' lab rO T rc t → Calls Try.prog 32 #[.pointer (some ⟨X.D 0, 0, none⟩), .slice rO T rc] w1' fun e w2 => ∃ vo vc, e = .returned (.slice vo q2 vc) ∧ Chg w1' w2 (fun z => lab z ≠ 0) ∧ Hid (∃ f : Nat → Int, RdA w2 (some ⟨g, 0, none⟩) 1 q2 q2 (fun j => .int .i64 (f j)) ∧ RdA w2 vo 1 q2 vc (fun j => .int .i64 (f j)) ∧ Snc wb w2 X lab num y mine (bd + 1) P q B ∧ (pcL t X.S (T / X.S) = P → q2 = q ∧ ∀ j, j < q → f j = (B j : Nat)))) := by
  obtain ⟨L, N, h, hi, ⟨b0, o0, hl0⟩, hB⟩ := S
  have hNk : N 0 ≤ 4611686018427387904 := by have := hi.bN 0 (by decide); omega
  refine (h.pfind (k := 0) (by decide) hNk ht hfit).mono ?_
  rintro e w1 ⟨q2, g, rfl, b, o, hl, hr, hg, hlg, ch, h1⟩
  refine ⟨q2, g, rfl, ch, hg, hlg, fun z hz => h1.lab0 hz, h1.chg, fun w1' f1 rO rc hO => ?_⟩
  have h2 := h1.fresh f1
  have hw0 : Well (X.c 0) (L 0) (N 0) := (h.ps.ca 0 (by decide)).well
  refine Calls.mono (h2.rfind (k := 0) (by decide) hw0 (hi.cut 0 (by decide)) hNk hO hl) ?_
  rintro e w2 ⟨vo, vc, rfl, hrd, hown, ch2, h3⟩
  have hr1 := (Chg.of_below (fun _ => False) f1).row hr id
  have hr2 := ch2.row hr1 (fun e => e hlg)
  have hq2 : q2 ≤ maxLen := by have := hrd.le; have := hrd.top; omega
  have hw1 : Well (X.c 0) (useS L N 0 ((pcL t X.S (T / X.S)).take q2) 0) (nextS N 0 0) := (h3.ps.ca 0 (by decide)).well
  rw [useS_at] at hw1
  refine ⟨vo, vc, rfl, ch2, fun j => (bkF (L 0) (pcL t X.S (T / X.S)) j : Nat), row_rd hr2 hq2, hrd, ⟨_, _, h3, hi.find (by decide) hZ hw0 (Nat.le_refl _) _, ⟨b0, o0, by rw [useS_at]; exact hl0.use _ _⟩, fun j hj => by rw [useS_at, bkF_use hw0 hw1 hl0 hj]; exact hB j hj⟩, fun e => ?_⟩
  subst e
  have e2 := Long.uniq hl hl0
  subst e2
  exact ⟨rfl, fun j hj => by show ((bkF (L 0) _ j : Nat) : Int) = _; rw [hB j hj]⟩
set_option maxHeartbeats 1600000 in
/-- two Finds of the program, then two of the reference -/
theorem find4 (h : Fd wb w X lab L N L N num y mine) (hi : Inv X L N y.cnt mine bd) (hZ : X.Z 0) (hbd : bd ≤ 1099511627776) {sO : Option Addr} {T scap : Nat} {t : Nat → Int} (ht : RdA w sO 1 T scap (fun i => .int .i64 (t i))) (hs : 0 < T → ∀ b o, sO = some ⟨b, o, none⟩ → lab b = 0) {tO : Option Addr} {cap : Nat} (hO : OpAt w lab tO T cap t) :
    Calls Try.prog 11 #[.pointer (some ⟨(X.c 0).C, 0, none⟩), .slice sO T scap] w fun e w8 => ∃ q g8, e = .returned (.slice (some ⟨g8, 0, none⟩) q q) ∧ Chg w w8 (fun z => lab z ≠ 0) ∧ Hid (Calls Try.prog 11 #[.pointer (some ⟨(X.c 0).C, 0, none⟩), .slice sO T scap] w8 fun e w9 => ∃ g9, e = .returned (.slice (some ⟨g9, 0, none⟩) q q) ∧ Chg w8 w9 (fun z => lab z ≠ 0) ∧
      Hid (Calls Try.prog 32 #[.pointer (some ⟨X.D 0, 0, none⟩), .slice tO T cap] w9 fun e w10 => ∃ vo vc, e = .returned (.slice vo q vc) ∧ Chg w9 w10 (fun z => lab z ≠ 0) ∧ Hid (Calls Try.prog 32 #[.pointer (some ⟨X.D 0, 0, none⟩), .slice tO T cap] w10 fun e w11 => (∃ vo' vc', e = .returned (.slice vo' q vc')) ∧ Chg w10 w11 (fun z => lab z ≠ 0) ∧
      Hid (∃ B : Nat → Nat, w11.rowIs g8 3 q (fun j => .int .i64 (B j : Nat)) ∧ w11.rowIs g9 3 q (fun j => .int .i64 (B j : Nat)) ∧ RdA w11 vo 1 q vc (fun j => .int .i64 (B j : Nat)) ∧ (g8 ≠ g9 ∧ w.heap.size ≤ g8 ∧ lab g8 = 0 ∧ w.heap.size ≤ g9 ∧ lab g9 = 0) ∧ (∀ z, (Value.slice vo q vc).ownBlock = some z → lab z = 0 ∧ w.heap.size ≤ z ∧ z ≠ g8 ∧ z ≠ g9) ∧ q ≤ T ∧ Snc wb w11 X lab num y mine (bd + 2) (pcL t X.S (T / X.S)) q B)))) := by
  have hNk : N 0 ≤ 1099511627776 + 5 := by have := hi.bN 0 (by decide); omega
  have hw0 : Well (X.c 0) (L 0) (N 0) := (h.ps.ca 0 (by decide)).well
  refine (h.pfind (k := 0) (by decide) (by omega) ht hO.fit).mono ?_
  rintro e w8 ⟨q, g8, rfl, b, o, hl, hr8, hg8, hlg8, ch8, h8⟩
  have hw1 : Well (X.c 0) (useS L N 0 ((pcL t X.S (T / X.S)).take q) 0) (nextS N 0 0) := (h8.ps.ca 0 (by decide)).well
  refine ⟨q, g8, rfl, ch8, ?_⟩
  have ht8 := ht.chg0 ch8 (fun h0 b o e q => q (hs h0 b o e))
  refine Calls.mono (h8.pfind (k := 0) (by decide) (by rw [nextS_at]; omega) ht8 hO.fit) ?_
  rintro e w9 ⟨q9, g9, rfl, b9, o9, hl9, hr9, hg9, hlg9, ch9, h9⟩
  have hlu : Long (X.c 0).C (useS L N 0 ((pcL t X.S (T / X.S)).take q) 0) (pcL t X.S (T / X.S)) q b o := by rw [useS_at]; exact hl.use _ _
  obtain rfl := Long.uniq hl9 hlu
  have hw2 : Well (X.c 0) (useS (useS L N 0 ((pcL t X.S (T / X.S)).take q9)) (nextS N 0) 0 ((pcL t X.S (T / X.S)).take q9) 0) (nextS (nextS N 0) 0 0) := (h9.ps.ca 0 (by decide)).well
  have hb1 : ∀ j, j < q9 → bkF (useS L N 0 ((pcL t X.S (T / X.S)).take q9) 0) (pcL t X.S (T / X.S)) j = bkF (L 0) (pcL t X.S (T / X.S)) j := fun j hj => by
    have hw1' := hw1
    rw [useS_at] at hw1' ⊢
    exact bkF_use hw0 hw1' hl hj
  refine ⟨g9, rfl, ch9, ?_⟩
  have hO9 := (hO.chg ch8).chg ch9
  refine Calls.mono (h9.rfind (k := 0) (by decide) hw0 (hi.cut 0 (by decide)) (by omega) hO9 hl) ?_
  rintro e w10 ⟨vo, vc, rfl, hrd, hown, ch10, h10⟩
  refine ⟨vo, vc, rfl, ch10, ?_⟩
  have hi1 := hi.find (c := X.c 0) (k := 0) (by decide) hZ hw0 (Nat.le_refl _) ((pcL t X.S (T / X.S)).take q9)
  refine Calls.mono (h10.rfind (k := 0) (by decide) hw1 (hi1.cut 0 (by decide)) (by rw [nextS_at]; omega) (hO9.chg ch10) hlu) ?_
  rintro e w11 ⟨vo', vc', rfl, _, _, ch11, h11⟩
  have hi2 := hi1.find (c := X.c 0) (k := 0) (by decide) hZ hw1 (Nat.le_refl _) ((pcL t X.S (T / X.S)).take q9)
  have hlt8 := hr8.lt
  have hlt9 := hr9.lt
  have hr8b := ch11.row (ch10.row (ch9.row hr8 (fun e => e hlg8)) (fun e => e hlg8)) (fun e => e hlg8)
  have hr9b := ch11.row (ch10.row hr9 (fun e => e hlg9)) (fun e => e hlg9)
  have z8 := ch8.size
  have z9 := ch9.size
  have hqT : q9 ≤ T := by
    have := hl.le
    rw [pcL_len] at this
    exact Nat.le_trans this (Nat.div_le_self _ _)
  refine ⟨⟨vo', vc', rfl⟩, ch11, bkF (L 0) (pcL t X.S (T / X.S)), hr8b, hr9b.congr (fun j hj => by rw [hb1 j hj]), hrd.chg ch11 (fun b off e => fun q => q (hown b (by rw [e]; rfl)).2), ⟨by omega, hg8, hlg8, by omega, hlg9⟩, fun z hz => ⟨(hown z hz).2, by have := (hown z hz).1; omega, by have := (hown z hz).1; omega, by have := (hown z hz).1; omega⟩, hqT, ⟨_, _, h11, hi2, ⟨b, o, by rw [useS_at]; exact hlu.use _ _⟩, fun j hj => ?_⟩⟩
  have hw2' := hw2
  rw [useS_at] at hw2' ⊢
  rw [bkF_use hw1 hw2' hlu hj]
  exact hb1 j hj
end
end Go.Proofs.Ytaalinlggjimcaa
namespace Go.Proofs.Ytaalinlggjimcaa
open Go.RowKit
/-! The loop of PrefixLists: its frame. -/
theorem infoM : (Try.prog.info? 22).map (fun i => (i.zero, i.size, i.bytes)) = some (some (.slice none 0 0), 1, 24) := by kernel_rfl
def rgt : Code → Code
  | .seq _ c => c
  | c => c
def lft : Code → Code
  | .seq c _ => c
  | c => c
def inb : Code → Code
  | .block _ c => c
  | c => c
def inl : Code → Code
  | .loop c => c
  | c => c
noncomputable def roundC : Code := inl (inb (rgt (lft (rgt (rgt (rgt (rgt (rgt (rgt (Try.f7.body.getD .skip))))))))))
def LF (so : Option Addr) (n cap wd : Nat) (v : Value) (i : Nat) (a : Act) : Prop := ∃ u : Nat → Value, u 2 = .slice so n cap ∧ u 7 = .pointer (some ⟨wd, 0, none⟩) ∧ u 10 = v ∧ u 11 = .int .i64 (i : Int) ∧ a = { tmps := #[u 0, u 1, u 2, u 3, u 4, u 5, u 6, u 7, u 8, u 9, u 10, u 11, u 12, u 13, u 14, u 15, u 16, u 17, u 18, u 19, u 20, u 21, u 22, u 23, u 24, u 25, u 26, u 27, u 28, u 29, u 30, u 31, u 32, u 33, u 34, u 35, u 36, u 37, u 38, u 39, u 40, u 41, u 42, u 43, u 44, u 45, u 46, u 47, u 48, u 49, u 50, u 51, u 52, u 53, u 54, u 55, u 56, u 57, u 58, u 59, u 60, u 61, u 62, u 63, u 64, u 65, u 66, u 67, u 68, u 69, u 70, u 71, u 72, u 73, u 74, u 75, u 76, u 77, u 78, u 79, u 80, u 81, u 82, u 83, u 84, u 85, u 86, u 87, u 88, u 89, u 90, u 91, u 92, u 93, u 94, u 95, u 96, u 97, u 98, u 99, u 100, u 101, u 102, u 103, u 104, u 105, u 106, u 107, u 108, u 109, u 110, u 111, u 112, u 113, u 114, u 115, u 116, u 117, u 118, u 119, u 120, u 121, u 122, u 123, u 124, u 125, u 126, u 127, u 128, u 129, u 130, u 131, u 132, u 133, u 134, u 135, u 136, u 137, u 138, u 139, u 140, u 141, u 142, u 143, u 144, u 145, u 146, u 147, u 148, u 149, u 150, u 151, u 152, u 153, u 154, u 155, u 156, u 157, u 158, u 159, u 160, u 161, u 162, u 163, u 164, u 165, u 166, u 167, u 168, u 169, u 170, u 171, u 172, u 173, u 174, u 175, u 176, u 177, u 178, u 179, u 180, u 181, u 182, u 183, u 184, u 185, u 186, u 187, u 188, u 189, u 190, u 191, u 192, u 193, u 194, u 195, u 196, u 197, u 198, u 199, u 200, u 201, u 202, u 203, u 204], defers := [] }
theorem arr_lit (t : Array Value) (k : Nat) (h : t.size = k) : t = ((List.range k).map (fun i => t.getD i undef)).toArray := by
  apply Array.ext
  · simp [h]
  · intro i h1 h2
    simp [Array.getD, h1]
set_option maxRecDepth 10000 in
theorem LF.of {so : Option Addr} {n cap wd : Nat} {v : Value} {i : Nat} {t : Array Value} (h : t.size = 205) (h2 : t.getD 2 undef = .slice so n cap) (h7 : t.getD 7 undef = .pointer (some ⟨wd, 0, none⟩)) (h10 : t.getD 10 undef = v) (h11 : t.getD 11 undef = .int .i64 (i : Int)) : LF so n cap wd v i { tmps := t, defers := [] } :=
  ⟨fun i => t.getD i undef, h2, h7, h10, h11, congrArg (fun x => Act.mk x []) (arr_lit t 205 h)⟩
theorem loop_invP {P : Program} {Q : Exit → Act → World → Prop} {a : Act} {w : World} {c : Code} (Inv : Nat → Act → World → Prop) (N : Nat) (h0 : Inv N a w)
    (h : ∀ m a w, Inv m a w → c.wp P (Exit.then (fun a' w' => ∃ m', m = m' + 1 ∧ Inv m' a' w') Q) a w) : (Code.loop c).wp P Q a w := by
  refine wp_loop_rounds (N + 1) ?_
  have key : ∀ m a w, Inv m a w → Code.rounds P c Q (m + 1) a w := by
    intro m
    induction m with
    | zero =>
      intro a w hi
      rw [rounds_succ]
      refine Code.wp_mono ?_ (h 0 a w hi)
      intro e a' w' hq
      cases e with
      | normal => obtain ⟨m', e, _⟩ := hq; omega
      | _ => exact hq
    | succ m ih =>
      intro a w hi
      rw [rounds_succ]
      refine Code.wp_mono ?_ (h (m + 1) a w hi)
      intro e a' w' hq
      cases e with
      | normal =>
        obtain ⟨m', e, hi'⟩ := hq
        obtain rfl : m' = m := by omega
        exact ih a' w' hi'
      | _ => exact hq
  exact key N a w h0
section
variable {wb w : World} {X : Wx} {lab : Nat → Nat} {num : Nat → Int} {y : Ry} {mine : Nat → Nat} {bd : Nat}
theorem Snc.self {P : List (List Int)} {q : Nat} {B : Nat → Nat} (h : Snc wb w X lab num y mine bd P q B) : Snc w w X lab num y mine bd P q B := by
  obtain ⟨L, N, h1, h2⟩ := h
  exact ⟨L, N, ⟨h1.ps, h1.rs, h1.ws, Chg.refl _ _⟩, h2⟩
/-- a change of what has no name -/
theorem Snc.un {P : List (List Int)} {q : Nat} {B : Nat → Nat} (h : Snc wb w X lab num y mine bd P q B) {w' : World} {T : Nat → Prop} (c : Chg w w' T) (hT : ∀ z, T z → lab z = 0) : Snc w' w' X lab num y mine bd P q B := by
  obtain ⟨L, N, h1, h2⟩ := h
  exact ⟨L, N, ⟨h1.ps.chg c (fun z e => by have := hT z e; omega), h1.rs.chg c (fun z e => by have := hT z e; omega), h1.ws.chg c (fun z e => by have := hT z e; omega), Chg.refl _ _⟩, h2⟩
theorem Snc.low {P : List (List Int)} {q : Nat} {B : Nat → Nat} (h : Snc wb w X lab num y mine bd P q B) : ∀ z, lab z ≠ 0 → z < w.heap.size := by
  obtain ⟨L, N, h1, _⟩ := h
  exact h1.ws.low
theorem Own.rda {w : World} {base : Nat} {e : TypeId} {sz n c : Nat} {u : Option Addr} {cs : Nat → Value} (h : Own w base e sz (.slice u n c) n cs) : RdA w u sz n c cs := by
  obtain ⟨ao, cap, e1, hr⟩ := h.rd
  injection e1 with e2 _ e3
  subst e2 e3
  exact hr
theorem Own.at0 {w : World} {base : Nat} {e : TypeId} {n c : Nat} {u : Option Addr} {cs : Nat → Value} (h : Own w base e 1 (.slice u n c) n cs) (hn : 0 < n) : ∃ g, u = some ⟨g, 0, none⟩ ∧ ∀ j, j < n → w.cell? ⟨g, j, none⟩ = some (cs j) := by
  obtain ⟨b, o, rfl, hc⟩ := h.rda.one hn
  rcases h.2 with ⟨e1, _⟩ | ⟨g, cap, cur, e1, _⟩
  · cases e1
  · injection e1 with e2 _ e3
    injection e2 with e2
    injection e2 with e4 e5
    subst e4 e5
    exact ⟨_, rfl, fun j hj => by simpa using hc j hj⟩
theorem wrap_fits (x : Int) : fits (wrap64 x) := by unfold fits wrap64; omega
end
end Go.Proofs.Ytaalinlggjimcaa
