import Derived.Test.YtaalinlggjimcaaXL
namespace Go.Proofs.Ytaalinlggjimcaa
open Go.RowKit
/-! learn. -/
theorem infoPN : (Try.prog.info? 76).map (fun i => (i.zero, i.size, i.bytes)) = some (some nilP, 1, 8) := by kernel_rfl
theorem node_new (W : World) (n : Nat) (a0 a1 a2 a3 a4 a5 a6 a7 a8 a9 a10 a11 a12 a13 a14 a15 : Int) (sh : Value) (bk : Nat) : (W.alloc (.cells #[.int .i64 ((n : Int) + 1), .int .i64 a0, .int .i64 a1, .int .i64 a2, .int .i64 a3, .int .i64 a4, .int .i64 a5, .int .i64 a6, .int .i64 a7, .int .i64 a8, .int .i64 a9, .int .i64 a10, .int .i64 a11, .int .i64 a12, .int .i64 a13, .int .i64 a14, .int .i64 a15, sh, .int .i64 0, .int .i64 bk, .int .i64 0] 78)).rowIs W.heap.size 78 21 (nodeF (n + 1) [a0, a1, a2, a3, a4, a5, a6, a7, a8, a9, a10, a11, a12, a13, a14, a15] sh 0 bk 0) :=
  World.rowIs_alloc W #[.int .i64 ((n : Int) + 1), .int .i64 a0, .int .i64 a1, .int .i64 a2, .int .i64 a3, .int .i64 a4, .int .i64 a5, .int .i64 a6, .int .i64 a7, .int .i64 a8, .int .i64 a9, .int .i64 a10, .int .i64 a11, .int .i64 a12, .int .i64 a13, .int .i64 a14, .int .i64 a15, sh, .int .i64 0, .int .i64 bk, .int .i64 0] 78 _ (fun i hi => by
    have hi : i < 21 := hi
    rcases i with _ | i
    · rfl
    rcases i with _ | i
    · rfl
    rcases i with _ | i
    · rfl
    rcases i with _ | i
    · rfl
    rcases i with _ | i
    · rfl
    rcases i with _ | i
    · rfl
    rcases i with _ | i
    · rfl
    rcases i with _ | i
    · rfl
    rcases i with _ | i
    · rfl
    rcases i with _ | i
    · rfl
    rcases i with _ | i
    · rfl
    rcases i with _ | i
    · rfl
    rcases i with _ | i
    · rfl
    rcases i with _ | i
    · rfl
    rcases i with _ | i
    · rfl
    rcases i with _ | i
    · rfl
    rcases i with _ | i
    · rfl
    rcases i with _ | i
    · rfl
    rcases i with _ | i
    · rfl
    rcases i with _ | i
    · rfl
    rcases i with _ | i
    · rfl
    omega)
theorem learn_fin {w V w10 : World} {c : Ca} {A : Nat → Prop} {L : List Nd} {N : Nat} {p : List (List Int)} {q : List Int} {b o blk g : Nat} (HH : CacheAt w c A L N) (HA : AdrOf c.C L p b o) (hq : Pc q) (hlen : p.length + 1 ≤ c.B) (hblk : blk < c.B) (hnb : ∀ y ∈ L, y.blk ≠ blk) (hnp : ∀ y ∈ L, y.path ≠ p ++ [q])
    (HB : Bumped V c L N p) (HN : V.rowIs (w.heap.size + 1) 78 21 (nodeF (p.length + 1) q (.pointer (some ⟨b, o, none⟩)) 0 blk 0)) (HO : V.rowIs c.O 76 c.B (ownF L)) (hMm : ∃ es clock, V.heap[c.M]? = some (.map es clock)) (hsV : w.heap.size + 2 ≤ V.heap.size)
    (S10 : Stored V w10 c.M c.O A (grpL L) (keyV ((p.length : Int) + 1) q) (.pointer (some ⟨w.heap.size + 1, 0, none⟩)) g) :
    CacheAt (w10.setCell ⟨c.O, blk, none⟩ (.pointer (some ⟨w.heap.size + 1, 0, none⟩))) c (fun z => (A z ∨ z = g) ∨ z = w.heap.size + 1) (L ++ [⟨p ++ [q], blk, 0, w.heap.size + 1⟩]) N := by
  have hAlt := HH.low
  have hs10 := S10.chg.size
  have key : (⟨p ++ [q], blk, 0, w.heap.size + 1⟩ : Nd).key = keyV ((p.length : Int) + 1) q := by
    unfold Nd.key lastP
    simp
  have hn : New c L ⟨p ++ [q], blk, 0, w.heap.size + 1⟩ p q := by
    refine ⟨rfl, hq, ?_, hlen, hblk, hnb, fun y hy e => ?_, hnp⟩
    · rcases HA with ⟨e, _⟩ | ⟨x, hx, e, _⟩
      · exact .inl e
      · exact .inr ⟨x, hx, e⟩
    · have := hAlt _ (HH.aN y hy)
      have e : y.at_ = w.heap.size + 1 := e
      omega
  have hOlt := hAlt _ HH.aO
  have hCO : c.C ≠ c.O := type_apart HB.row HO (by decide)
  refine CacheAt.add hn HH.well (Nat.zero_le _) ⟨(S10.row hMm HB.row (.inl (by decide))).setOther (a := ⟨c.O, blk, none⟩) hCO _, fun x hx => ?_⟩ HA ?_ ?_ ?_ (.inl (.inl HH.aC)) (.inl (.inl HH.aO)) (.inl (.inl HH.aM)) (fun y hy => .inl (.inl (HH.aN y hy))) (.inr rfl) ?_
  · obtain ⟨b', o', h1, h2⟩ := HB.node x hx
    exact ⟨b', o', h1, (S10.row hMm h2 (.inl (by decide))).setOther (a := ⟨c.O, blk, none⟩) (type_apart h2 HO (by decide)) _⟩
  · have := (S10.row hMm HN (.inl (by decide))).setOther (a := ⟨c.O, blk, none⟩) (show w.heap.size + 1 ≠ c.O by omega) (.pointer (some ⟨w.heap.size + 1, 0, none⟩))
    simpa [lastP] using this
  · exact ((S10.row hMm HO (.inr rfl)).set blk _)
  · have hm := (S10.map.chg (Chg.of_set w10 c.O blk (.pointer (some ⟨w.heap.size + 1, 0, none⟩))) (fun e => by
      obtain ⟨es, clock, h1⟩ := hMm
      obtain ⟨y, hy, _⟩ := HO
      have e : c.M = c.O := e
      rw [← e, h1] at hy
      cases hy) (fun z _ hz _ e => hz e)).mono (A' := fun z => (A z ∨ z = g) ∨ z = w.heap.size + 1) (fun z hz => .inl hz)
    rw [key]
    exact hm
  · intro z hz
    rw [World.size_setCell]
    rcases hz with (hz | rfl) | rfl
    · have := hAlt z hz; omega
    · exact S10.gLt
    · omega
set_option maxRecDepth 100000 in
set_option maxHeartbeats 4000000 in
theorem learn_any {w : World} {c : Ca} {A : Nat → Prop} {L : List Nd} {N : Nat} (h : CacheAt w c A L N) {cb nb Y W S : Nat} {cnt : Nat → Nat} {num : Nat → Int} (hp : PoolAt w c.pg cb nb Y W c.B S cnt num) {p : List (List Int)} {b o : Nat} (ha : AdrOf c.C L p b o) {a0 a1 a2 a3 a4 a5 a6 a7 a8 a9 a10 a11 a12 a13 a14 a15 : Int} (hq : Pc [a0, a1, a2, a3, a4, a5, a6, a7, a8, a9, a10, a11, a12, a13, a14, a15])
    {blk : Nat} (hlen : p.length + 1 ≤ c.B) (hblk : blk < c.B) (hnb : ∀ y ∈ L, y.blk ≠ blk) (hnp : ∀ y ∈ L, y.path ≠ p ++ [[a0, a1, a2, a3, a4, a5, a6, a7, a8, a9, a10, a11, a12, a13, a14, a15]]) (hc0 : cnt blk ≠ 0) (hc1 : cnt blk ≤ 4611686018427387904) (o1 : ¬ A c.pg) (o2 : ¬ A cb) (o3 : ¬ A nb) :
    Calls Try.prog 41 #[.pointer (some ⟨c.C, 0, none⟩), .pointer (some ⟨b, o, none⟩), .agg #[.int .i64 a0, .int .i64 a1, .int .i64 a2, .int .i64 a3, .int .i64 a4, .int .i64 a5, .int .i64 a6, .int .i64 a7, .int .i64 a8, .int .i64 a9, .int .i64 a10, .int .i64 a11, .int .i64 a12, .int .i64 a13, .int .i64 a14, .int .i64 a15], .int .i64 blk] w fun e w' => ∃ a A', e = .returned (.pointer (some ⟨a, 0, none⟩)) ∧ CacheAt w' c A' (L ++ [⟨p ++ [[a0, a1, a2, a3, a4, a5, a6, a7, a8, a9, a10, a11, a12, a13, a14, a15]], blk, 0, a⟩]) N ∧ PoolAt w' c.pg cb nb Y W c.B S (updN cnt blk (cnt blk + 1)) num ∧ Chg w w' (fun b => A b ∨ b = cb) ∧ (∀ b, A b → A' b) ∧ (∀ b, A' b → A b ∨ w.heap.size ≤ b) := by
  obtain ⟨c0, _, _, _, c23, c24, _⟩ := h.cells
  obtain ⟨a0', a18, fb⟩ := h.adr ha
  have hlg := lg_le L p
  have hLl := h.well.len
  have hB := h.well.hB
  have hbl := lt_of_cell a0'
  have HH := hidd h
  have HA := hidd ha
  have HP := hidd hp
  have HC := hidd (And.intro c0 (And.intro c23 c24))
  have HBU := hidd (h.bump ha)
  clear h ha hp c0 c23 c24
  obtain ⟨g0, HG0⟩ : ∃ g0, Hid (g0 = lg L p) := ⟨_, rfl⟩
  rw [← HG0.out] at a18 hlg
  have hpl : p.length ≤ 256 := by omega
  go_enter Try.func41, Try.ntmps41
  go_wp2
  go_region
  have f1 : Below w.heap.size w (((w.alloc (.cells #[.int .i64 a0, .int .i64 a1, .int .i64 a2, .int .i64 a3, .int .i64 a4, .int .i64 a5, .int .i64 a6, .int .i64 a7, .int .i64 a8, .int .i64 a9, .int .i64 a10, .int .i64 a11, .int .i64 a12, .int .i64 a13, .int .i64 a14, .int .i64 a15] 73)).alloc (.cells #[.int .i64 ((p.length : Int) + 1), .int .i64 a0, .int .i64 a1, .int .i64 a2, .int .i64 a3, .int .i64 a4, .int .i64 a5, .int .i64 a6, .int .i64 a7, .int .i64 a8, .int .i64 a9, .int .i64 a10, .int .i64 a11, .int .i64 a12, .int .i64 a13, .int .i64 a14, .int .i64 a15, .pointer (some ⟨b, o, none⟩), .int .i64 0, .int .i64 blk, .int .i64 0] 78)).drew) := ((fresh_alloc w _).alloc (by simp) _).drew
  have rX := (node_new (w.alloc (.cells #[.int .i64 a0, .int .i64 a1, .int .i64 a2, .int .i64 a3, .int .i64 a4, .int .i64 a5, .int .i64 a6, .int .i64 a7, .int .i64 a8, .int .i64 a9, .int .i64 a10, .int .i64 a11, .int .i64 a12, .int .i64 a13, .int .i64 a14, .int .i64 a15] 73)) p.length a0 a1 a2 a3 a4 a5 a6 a7 a8 a9 a10 a11 a12 a13 a14 a15 (.pointer (some ⟨b, o, none⟩)) blk).drew
  simp only [World.size_alloc] at rX
  generalize (((w.alloc (.cells #[.int .i64 a0, .int .i64 a1, .int .i64 a2, .int .i64 a3, .int .i64 a4, .int .i64 a5, .int .i64 a6, .int .i64 a7, .int .i64 a8, .int .i64 a9, .int .i64 a10, .int .i64 a11, .int .i64 a12, .int .i64 a13, .int .i64 a14, .int .i64 a15] 73)).alloc (.cells #[.int .i64 ((p.length : Int) + 1), .int .i64 a0, .int .i64 a1, .int .i64 a2, .int .i64 a3, .int .i64 a4, .int .i64 a5, .int .i64 a6, .int .i64 a7, .int .i64 a8, .int .i64 a9, .int .i64 a10, .int .i64 a11, .int .i64 a12, .int .i64 a13, .int .i64 a14, .int .i64 a15, .pointer (some ⟨b, o, none⟩), .int .i64 0, .int .i64 blk, .int .i64 0] 78)).drew) = w1 at *
  have h1 := HH.out.fresh f1
  obtain ⟨b0, b18, fb1⟩ := h1.adr HA.out
  have hbn : b ≠ w.heap.size + 1 := by omega
  have HB1 := hidd (h1.bump HA.out)
  have H1 := hidd h1
  have HP1 := hidd (HP.out.fresh f1)
  have hbA : b = c.C ∨ ∃ x ∈ L, b = x.at_ := by
    rcases HA.out with ⟨_, e, _⟩ | ⟨x, hx, _, e, _⟩
    · exact .inl e
    · exact .inr ⟨x, hx, e⟩
  have hbAA : A b := by
    rcases hbA with e | ⟨x, hx, e⟩
    · rw [e]; exact HH.out.aC
    · rw [e]; exact HH.out.aN x hx
  have eg : ((g0 + 1 : Nat) : Int) = (g0 : Int) + 1 := by push_cast; rfl
  rw [← HG0.out] at HB1 b18
  rw [eg] at HB1
  have cV := Chg.of_set w1 b (o + 18) (.int .i64 ((g0 : Int) + 1))
  have HN := hidd (rX.setOther (a := ⟨b, o + 18, none⟩) (fun e => hbn e.symm) (.int .i64 ((g0 : Int) + 1)))
  have hnt := h1.notT hbA
  have HG := hidd (h1.map.chg cV (fun e => hnt.1 e.symm) (fun z _ _ hz e => by subst e; exact hnt.2.2 hz))
  have HO := hidd (h1.own.setOther (a := ⟨b, o + 18, none⟩) (fun e => hnt.2.1 e.symm) (.int .i64 ((g0 : Int) + 1)))
  have HPV := hidd (HP1.out.chg cV (fun e => o1 (by rw [e]; exact hbAA)) (fun e => o2 (by rw [e]; exact hbAA)) (fun e => o3 (by rw [e]; exact hbAA)))
  have fV : Hid (Chg w (w1.setCell ⟨b, o + 18, none⟩ (.int .i64 ((g0 : Int) + 1))) A) := (Chg.of_below A f1).trans cV (fun z _ e => by rw [e]; exact hbAA)
  have hsV : w.heap.size + 2 ≤ (w1.setCell ⟨b, o + 18, none⟩ (.int .i64 ((g0 : Int) + 1))).heap.size := by have := rX.lt; simp; omega
  clear h1 cV rX hnt
  go_wp2
  clear b0 b18 fb1 HP1 H1
  generalize (w1.setCell ⟨b, o + 18, none⟩ (.int .i64 ((g0 : Int) + 1))) = V at *
  have K18 : Hid (∀ (Z : World), Z.rowIs c.C 80 26 (cacheF c.pg c.S (bmp L p []) c.M c.O c.B N) → Z.rowIs (w.heap.size + 1) 78 21 (nodeF (p.length + 1) [a0, a1, a2, a3, a4, a5, a6, a7, a8, a9, a10, a11, a12, a13, a14, a15] (.pointer (some ⟨b, o, none⟩)) 0 blk 0) → Z.cell? ⟨c.C, 23, none⟩ = some (.map (some c.M)) ∧ Z.cell? ⟨w.heap.size + 1, 0, none⟩ = some (.int .i64 ((p.length : Int) + 1)) ∧ Z.cell? ⟨w.heap.size + 1, 1, none⟩ = some (.int .i64 a0) ∧ Z.cell? ⟨w.heap.size + 1, 2, none⟩ = some (.int .i64 a1) ∧ Z.cell? ⟨w.heap.size + 1, 3, none⟩ = some (.int .i64 a2) ∧ Z.cell? ⟨w.heap.size + 1, 4, none⟩ = some (.int .i64 a3) ∧ Z.cell? ⟨w.heap.size + 1, 5, none⟩ = some (.int .i64 a4) ∧ Z.cell? ⟨w.heap.size + 1, 6, none⟩ = some (.int .i64 a5) ∧ Z.cell? ⟨w.heap.size + 1, 7, none⟩ = some (.int .i64 a6) ∧ Z.cell? ⟨w.heap.size + 1, 8, none⟩ = some (.int .i64 a7) ∧ Z.cell? ⟨w.heap.size + 1, 9, none⟩ = some (.int .i64 a8) ∧ Z.cell? ⟨w.heap.size + 1, 10, none⟩ = some (.int .i64 a9) ∧ Z.cell? ⟨w.heap.size + 1, 11, none⟩ = some (.int .i64 a10) ∧ Z.cell? ⟨w.heap.size + 1, 12, none⟩ = some (.int .i64 a11) ∧ Z.cell? ⟨w.heap.size + 1, 13, none⟩ = some (.int .i64 a12) ∧ Z.cell? ⟨w.heap.size + 1, 14, none⟩ = some (.int .i64 a13) ∧ Z.cell? ⟨w.heap.size + 1, 15, none⟩ = some (.int .i64 a14) ∧ Z.cell? ⟨w.heap.size + 1, 16, none⟩ = some (.int .i64 a15)) := fun Z h1 h2 => ⟨h1.cell (i := 23) (by decide), h2.cell (i := 0) (by decide), h2.cell (i := 1) (by decide), h2.cell (i := 2) (by decide), h2.cell (i := 3) (by decide), h2.cell (i := 4) (by decide), h2.cell (i := 5) (by decide), h2.cell (i := 6) (by decide), h2.cell (i := 7) (by decide), h2.cell (i := 8) (by decide), h2.cell (i := 9) (by decide), h2.cell (i := 10) (by decide), h2.cell (i := 11) (by decide), h2.cell (i := 12) (by decide), h2.cell (i := 13) (by decide), h2.cell (i := 14) (by decide), h2.cell (i := 15) (by decide), h2.cell (i := 16) (by decide)⟩
  have hlowV : ∀ z, A z → z < V.heap.size := fun z hz => by have := HH.out.low z hz; omega
  obtain ⟨kl, hkl⟩ := key_ok (n := (p.length : Int) + 1) (by unfold fits; omega) hq
  obtain ⟨l, hl⟩ : ∃ l, l = grpL L (keyV ((p.length : Int) + 1) [a0, a1, a2, a3, a4, a5, a6, a7, a8, a9, a10, a11, a12, a13, a14, a15]) := ⟨_, rfl⟩
  have hln : l.length ≤ 256 := by
    rw [hl]
    have h1 : (grpL L (keyV ((p.length : Int) + 1) [a0, a1, a2, a3, a4, a5, a6, a7, a8, a9, a10, a11, a12, a13, a14, a15])).length ≤ L.length := by unfold grpL; rw [List.length_map]; exact List.length_filter_le _ _
    omega
  obtain ⟨v1, st1, Y1, r1, ch1, ow1, cl1⟩ := HG.out.learn HH.out.well.few hkl (.pointer (some ⟨w.heap.size + 1, 0, none⟩)) HH.out.aO hlowV (V.alloc (.cells #[.pointer (some ⟨w.heap.size + 1, 0, none⟩)] 76)).drew (fresh_alloc V _).drew
  rw [← hl] at ow1 cl1
  have q1 : (Instr.mapEntry 70 (.map (some c.M)) (.agg #[.int .i64 ((p.length : Int) + 1), .int .i64 a0, .int .i64 a1, .int .i64 a2, .int .i64 a3, .int .i64 a4, .int .i64 a5, .int .i64 a6, .int .i64 a7, .int .i64 a8, .int .i64 a9, .int .i64 a10, .int .i64 a11, .int .i64 a12, .int .i64 a13, .int .i64 a14, .int .i64 a15])).run Try.prog (V.alloc (.cells #[.pointer (some ⟨w.heap.size + 1, 0, none⟩)] 76)).drew = .ok (.tuple #[v1, .int .i64 st1]) Y1 := r1
  have hM1 : V.heap.size ≠ c.M := by have := hlowV c.M HH.out.aM; omega
  have HX1 : Hid (Y1.cell? ⟨V.heap.size, 0, none⟩ = some (lst (l ++ [.pointer (some ⟨w.heap.size + 1, 0, none⟩)]) l.length)) := by
    show _ = _
    rw [lst_last]
    exact ch1.cell (by simp) hM1
  have HO1 : Hid ((lst (l ++ [.pointer (some ⟨w.heap.size + 1, 0, none⟩)]) l.length).oneCell' = true) := by show _ = _; rw [lst_last]; rfl
  have HOW1 := hidd ow1
  have HCL1 := hidd cl1
  have HL := hidd hl
  have CH1 := hidd ch1
  have CMR : Hid (c.C ≠ c.M) := fun e => by
    obtain ⟨es, clock, gg⟩ := HG.out
    obtain ⟨y, hy, _⟩ := HB1.out.row
    rw [e, gg.blk] at hy
    cases hy
  have CMN : Hid (w.heap.size + 1 ≠ c.M) := fun e => by have := HH.out.low c.M HH.out.aM; omega
  clear r1 ow1 cl1 hl ch1
  have hMm : ∃ es clock, V.heap[c.M]? = some (.map es clock) := by
    obtain ⟨es, clock, gg⟩ := HG.out
    exact ⟨es, clock, gg.blk⟩
  have HMM := hidd hMm
  have KV := K18.out V.drew HB1.out.row.drew HN.out.drew
  have KA := K18.out (V.alloc (.cells #[.pointer (some ⟨w.heap.size + 1, 0, none⟩)] 76)).drew (HB1.out.row.alloc _).drew (HN.out.alloc _).drew
  have RY1 := hidd (And.intro (CH1.out.row (HB1.out.row.alloc (.cells #[.pointer (some ⟨w.heap.size + 1, 0, none⟩)] 76)).drew (fun e => CMR.out e)) (CH1.out.row (HN.out.alloc (.cells #[.pointer (some ⟨w.heap.size + 1, 0, none⟩)] 76)).drew (fun e => CMN.out e)))
  have KY := K18.out Y1 RY1.out.1 RY1.out.2
  clear hMm
  go_region_held3 (fun w' => w'.cell? ⟨c.C, 23, none⟩ = some (.map (some c.M)) ∧ w'.cell? ⟨w.heap.size + 1, 0, none⟩ = some (.int .i64 ((p.length : Int) + 1)) ∧ w'.cell? ⟨w.heap.size + 1, 1, none⟩ = some (.int .i64 a0) ∧ w'.cell? ⟨w.heap.size + 1, 2, none⟩ = some (.int .i64 a1) ∧ w'.cell? ⟨w.heap.size + 1, 3, none⟩ = some (.int .i64 a2) ∧ w'.cell? ⟨w.heap.size + 1, 4, none⟩ = some (.int .i64 a3) ∧ w'.cell? ⟨w.heap.size + 1, 5, none⟩ = some (.int .i64 a4) ∧ w'.cell? ⟨w.heap.size + 1, 6, none⟩ = some (.int .i64 a5) ∧ w'.cell? ⟨w.heap.size + 1, 7, none⟩ = some (.int .i64 a6) ∧ w'.cell? ⟨w.heap.size + 1, 8, none⟩ = some (.int .i64 a7) ∧ w'.cell? ⟨w.heap.size + 1, 9, none⟩ = some (.int .i64 a8) ∧ w'.cell? ⟨w.heap.size + 1, 10, none⟩ = some (.int .i64 a9) ∧ w'.cell? ⟨w.heap.size + 1, 11, none⟩ = some (.int .i64 a10) ∧ w'.cell? ⟨w.heap.size + 1, 12, none⟩ = some (.int .i64 a11) ∧ w'.cell? ⟨w.heap.size + 1, 13, none⟩ = some (.int .i64 a12) ∧ w'.cell? ⟨w.heap.size + 1, 14, none⟩ = some (.int .i64 a13) ∧ w'.cell? ⟨w.heap.size + 1, 15, none⟩ = some (.int .i64 a14) ∧ w'.cell? ⟨w.heap.size + 1, 16, none⟩ = some (.int .i64 a15))
    (first | (with_reducible exact KV) | (with_reducible exact KA) | (with_reducible exact KY) | (with_reducible exact K9) | (with_reducible exact K10) | go_keep)
    (first
      | (refine step_app1 _ (by rfl) _ _ _ (by rfl) 0 76 nilP 8 Try.underlying71 infoPN rfl _ l.length _ (by rfl) HOW1.out V.heap.size 1 (by rfl) HX1.out HO1.out (by omega) (by omega) (Nat.zero_le _) ?_; intro g' cap' w9 ho9 ha9; have K9 := K18.out w9 ((Chg.of_app ha9).row RY1.out.1 (own_row_ne HOW1.out RY1.out.1 (by decide))) ((Chg.of_app ha9).row RY1.out.2 (own_row_ne HOW1.out RY1.out.2 (by decide))); obtain ⟨w10, e10, S10⟩ := HCL1.out _ w9 g' cap' (Below.refl _ _) ho9 ha9; have K10 := K18.out w10 (S10.row HMM.out HB1.out.row (Or.inl (by decide))) (S10.row HMM.out HN.out (Or.inl (by decide)))))
  have rC := S10.row HMM.out HB1.out.row (Or.inl (by decide))
  have rO := S10.row HMM.out HO.out (Or.inr rfl)
  have c0 : w10.cell? ⟨c.C, 0, none⟩ = some (.pointer (some ⟨c.pg, 0, none⟩)) := rC.cell (i := 0) (by decide)
  have c24 : w10.cell? ⟨c.C, 24, none⟩ = some (.slice (some ⟨c.O, 0, none⟩) c.B c.B) := rC.cell (i := 24) (by decide)
  have dO := rO.cell (i := blk) hblk
  have fO := rO.frozen
  have hCO : c.C ≠ c.O := type_apart rC rO (by decide)
  have HF := hidd (learn_fin HH.out HA.out hq hlen hblk hnb hnp HB1.out HN.out HO.out HMM.out hsV S10)
  have aM := HH.out.aM
  have aO := HH.out.aO
  have HPW := hidd ((HPV.out.chg S10.chg (fun e => e.elim (fun e => o1 (by rw [e]; exact aM)) (fun e => o1 e.2.1)) (fun e => e.elim (fun e => o2 (by rw [e]; exact aM)) (fun e => o2 e.2.1)) (fun e => e.elim (fun e => o3 (by rw [e]; exact aM)) (fun e => o3 e.2.1))).chg (Chg.of_set w10 c.O blk (.pointer (some ⟨w.heap.size + 1, 0, none⟩))) (fun e => o1 (by rw [e]; exact aO)) (fun e => o2 (by rw [e]; exact aO)) (fun e => o3 (by rw [e]; exact aO)))
  have HOLD := hidd (hold_ok HPW.out hblk hc0 hc1)
  have HG10 := hidd S10
  have hcb : cb < w.heap.size := HP.out.cnts.lt
  clear rC rO K9 K10 KV KA KY K18 e10 ho9 ha9 S10 q1
  go_wp2_with (go_at_call 65; refine HOLD.out.mono ?_; rintro e w12 ⟨rfl, P12, C12⟩)
  go_ret
  refine ⟨w.heap.size + 1, _, rfl, HF.out.chg C12 (fun z hz e => ?_), P12, ?_, fun z hz => .inl (.inl hz), fun z hz => ?_⟩
  · have e : z = cb := e
    rcases hz with (hz | hz) | hz
    · exact o2 (by rw [← e]; exact hz)
    · rcases HG10.out.gA with h1 | h1
      · exact o2 (by rw [← e, hz]; exact h1)
      · omega
    · omega
  · refine ((fV.out.trans HG10.out.chg (fun z _ e => ?_)).trans (Chg.of_set w10 c.O blk (.pointer (some ⟨w.heap.size + 1, 0, none⟩))) (fun z _ e => by rw [e]; exact aO)).imp (fun z _ e => Or.inl e) |>.trans C12 (fun z _ e => Or.inr e)
    rcases e with e | e
    · rw [e]; exact aM
    · exact e.2.1
  · rcases hz with (hz | hz) | hz
    · exact .inl hz
    · rcases HG10.out.gA with h1 | h1
      · exact .inl (by rw [hz]; exact h1)
      · exact .inr (by omega)
    · exact .inr (by omega)
end Go.Proofs.Ytaalinlggjimcaa
