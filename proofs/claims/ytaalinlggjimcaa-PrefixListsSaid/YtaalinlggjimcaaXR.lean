import Derived.Test.YtaalinlggjimcaaXP
namespace Go.Proofs.Ytaalinlggjimcaa
open Go.RowKit
/-! forget. -/
set_option maxRecDepth 100000 in
set_option maxHeartbeats 4000000 in
theorem forget_more {w : World} {c : Ca} {A : Nat → Prop} {L : List Nd} {N : Nat} (h : CacheAt w c A L N) {cb nb Y W S : Nat} {cnt : Nat → Nat} {num : Nat → Int} (hp : PoolAt w c.pg cb nb Y W c.B S cnt num) {x : Nd} (hx : x ∈ L) (h0 : lg L x.path = 0) (hc : cnt x.blk = 1) (o1 : ¬ A c.pg) (o2 : ¬ A cb) (o3 : ¬ A nb) {n : Nat} (hn0 : 0 < n) (hnn : n + 1 = (withK L x.key).length) :
    Calls Try.prog 43 #[.pointer (some ⟨c.C, 0, none⟩), .pointer (some ⟨x.at_, 0, none⟩)] w fun e w' => e = .returned (.tuple #[]) ∧ CacheAt w' c A (delL L x) N ∧ PoolAt w' c.pg cb nb Y W c.B S (updN cnt x.blk 0) num ∧ Chg w w' (fun b => A b ∨ b = cb) := by
  have f1 := fresh_alloc w (.cells #[.pointer (some ⟨x.at_, 0, none⟩)] 76)
  have h1 := h.fresh f1
  have bx := new_cell w (.pointer (some ⟨x.at_, 0, none⟩)) 76
  have hw := h.well
  have hBl : ∀ z, A z → z < w.heap.size := h.low
  obtain ⟨b, o, ha, hrx⟩ := h1.node x hx
  obtain ⟨kl, hkl⟩ := hw.keyOk hx
  obtain ⟨v, hv, hL, hSt, hDel⟩ := h1.map.look2 hkl
  have hlk := h1.map.look_all hkl hv (w.alloc (.cells #[.pointer (some ⟨x.at_, 0, none⟩)] 76)).drew rfl
  have hgl : (grpL L x.key).length = n + 1 := by rw [grpL_with, List.length_map, ← hnn]
  have hown := hL.own
  rw [hgl] at hown
  obtain ⟨g, cap, F, rfl, hc1, hc2, _, hrg, hFg⟩ := hown.row1 (by omega)
  have hgA := hL.area g (by simp [Value.ownBlock])
  have hgl2 := hBl g hgA.1
  have hlen := hw.len
  have hB := hw.hB
  have hn256 : n + 1 ≤ 256 := by
    have : (withK L x.key).length ≤ L.length := List.length_filter_le _ _
    omega
  have hxm : x ∈ withK L x.key := by unfold withK; simp [hx]
  obtain ⟨k, hk⟩ := List.mem_iff_getElem?.1 hxm
  have hys : ∀ y ∈ withK L x.key, y ∈ L := fun y hy => (List.mem_filter.1 hy).1
  have HDF := hidd (delFunc_any (w := (w.alloc (.cells #[.pointer (some ⟨x.at_, 0, none⟩)] 76)).drew) (ys := withK L x.key) (fun y hy => by
    obtain ⟨_, _, _, hr⟩ := h1.node y (hys y hy)
    exact ⟨_, hr.drew⟩) (fun a ha b hb => hw.dat a (hys a ha) b (hys b hb)) (hw.nodup.filter _) hk hnn (by omega) (B := w.heap.size) (g := g) (cap := cap) (F := F) bx (by omega) hrg.drew (fun j hj => hFg j hj) hc1)
  have HFIL : Hid (∀ j, j < n → lst (((withK L x.key).filter (fun y => decide (y ≠ x))).map Nd.ptr) j = if j < k then ndF (withK L x.key) j else ndF (withK L x.key) (j + 1)) := fun j hj => by
    unfold lst ndF
    simp only [List.getD_eq_getElem?_getD, List.getElem?_map, filt_get _ k hk (hw.nodup.filter _) j]
    split <;> rfl
  have hfl : (((withK L x.key).filter (fun y => decide (y ≠ x))).map Nd.ptr).length = n := by
    have e := count_del (fun _ => true) (withK L x.key) (hw.nodup.filter _) hxm
    rw [List.filter_eq_self.2 (fun _ _ => rfl), List.filter_eq_self.2 (fun _ _ => rfl), if_pos rfl] at e
    unfold delL at e
    rw [List.length_map]
    omega
  obtain ⟨pl, hpl⟩ : ∃ pl, pl = x.path.length := ⟨_, rfl⟩
  have hpc := hw.last hx
  obtain ⟨q, hq⟩ : ∃ q, q = lastP x.path := ⟨_, rfl⟩
  have hkey : x.key = keyV pl q := by unfold Nd.key; rw [hpl, hq]
  rw [← hq] at hpc
  obtain ⟨a0, a1, a2, a3, a4, a5, a6, a7, a8, a9, a10, a11, a12, a13, a14, a15, rfl⟩ := len16 hpc.1
  rw [← hpl, ← hq] at hrx
  have K19 : Hid (∀ Z : World, Z.rowIs c.C 80 26 (cacheF c.pg c.S (lg L []) c.M c.O c.B N) → Z.rowIs x.at_ 78 21 (nodeF pl [a0, a1, a2, a3, a4, a5, a6, a7, a8, a9, a10, a11, a12, a13, a14, a15] (.pointer (some ⟨b, o, none⟩)) (lg L x.path) x.blk x.used) → Z.cell? ⟨w.heap.size, 0, none⟩ = some (.pointer (some ⟨x.at_, 0, none⟩)) → Z.cell? ⟨c.C, 23, none⟩ = some (.map (some c.M)) ∧ Z.cell? ⟨w.heap.size, 0, none⟩ = some (.pointer (some ⟨x.at_, 0, none⟩)) ∧ Z.cell? ⟨x.at_, 0, none⟩ = some (.int .i64 (pl : Int)) ∧ Z.cell? ⟨x.at_, 1, none⟩ = some (.int .i64 a0) ∧ Z.cell? ⟨x.at_, 2, none⟩ = some (.int .i64 a1) ∧ Z.cell? ⟨x.at_, 3, none⟩ = some (.int .i64 a2) ∧ Z.cell? ⟨x.at_, 4, none⟩ = some (.int .i64 a3) ∧ Z.cell? ⟨x.at_, 5, none⟩ = some (.int .i64 a4) ∧ Z.cell? ⟨x.at_, 6, none⟩ = some (.int .i64 a5) ∧ Z.cell? ⟨x.at_, 7, none⟩ = some (.int .i64 a6) ∧ Z.cell? ⟨x.at_, 8, none⟩ = some (.int .i64 a7) ∧ Z.cell? ⟨x.at_, 9, none⟩ = some (.int .i64 a8) ∧ Z.cell? ⟨x.at_, 10, none⟩ = some (.int .i64 a9) ∧ Z.cell? ⟨x.at_, 11, none⟩ = some (.int .i64 a10) ∧ Z.cell? ⟨x.at_, 12, none⟩ = some (.int .i64 a11) ∧ Z.cell? ⟨x.at_, 13, none⟩ = some (.int .i64 a12) ∧ Z.cell? ⟨x.at_, 14, none⟩ = some (.int .i64 a13) ∧ Z.cell? ⟨x.at_, 15, none⟩ = some (.int .i64 a14) ∧ Z.cell? ⟨x.at_, 16, none⟩ = some (.int .i64 a15)) := fun Z h1 h2 h3 => ⟨h1.cell (i := 23) (by decide), h3, h2.cell (i := 0) (by decide), h2.cell (i := 1) (by decide), h2.cell (i := 2) (by decide), h2.cell (i := 3) (by decide), h2.cell (i := 4) (by decide), h2.cell (i := 5) (by decide), h2.cell (i := 6) (by decide), h2.cell (i := 7) (by decide), h2.cell (i := 8) (by decide), h2.cell (i := 9) (by decide), h2.cell (i := 10) (by decide), h2.cell (i := 11) (by decide), h2.cell (i := 12) (by decide), h2.cell (i := 13) (by decide), h2.cell (i := 14) (by decide), h2.cell (i := 15) (by decide), h2.cell (i := 16) (by decide)⟩
  have KV := K19.out (w.alloc (.cells #[.pointer (some ⟨x.at_, 0, none⟩)] 76)).drew h1.row.drew hrx.drew bx
  have hgC : ¬ c.C = g := fun e => own_row_ne hL.own h1.row (by decide) (by rw [e]; rfl)
  have hgx : ¬ x.at_ = g := fun e => own_row_ne hL.own hrx (by decide) (by rw [e]; rfl)
  have hgB : ¬ w.heap.size = g := by omega
  have hmC : ¬ c.C = c.M := fun e => by
    obtain ⟨es, clock, gg⟩ := h1.map
    obtain ⟨y, hy, _⟩ := h1.row
    rw [e, gg.blk] at hy
    cases hy
  have hmx : ¬ x.at_ = c.M := fun e => by
    obtain ⟨es, clock, gg⟩ := h1.map
    obtain ⟨y, hy, _⟩ := hrx
    have := hy.symm.trans ((congrArg (fun z => (w.alloc (.cells #[.pointer (some ⟨x.at_, 0, none⟩)] 76)).heap[z]?) e).trans gg.blk)
    cases this
  have hmB : ¬ w.heap.size = c.M := fun e => by have := hBl c.M h.aM; omega
  have hmf := mkf
  have hlk2 : (Instr.lookup 70 (.map (some c.M)) (.agg #[.int .i64 (pl : Int), .int .i64 a0, .int .i64 a1, .int .i64 a2, .int .i64 a3, .int .i64 a4, .int .i64 a5, .int .i64 a6, .int .i64 a7, .int .i64 a8, .int .i64 a9, .int .i64 a10, .int .i64 a11, .int .i64 a12, .int .i64 a13, .int .i64 a14, .int .i64 a15]) false).run Try.prog (w.alloc (.cells #[.pointer (some ⟨x.at_, 0, none⟩)] 76)).drew = .ok (.slice (some ⟨g, 0, none⟩) (n + 1) cap) (w.alloc (.cells #[.pointer (some ⟨x.at_, 0, none⟩)] 76)).drew := by
    rw [hkey] at hlk
    exact hlk
  have hvB : ∀ z, z = g → (Value.slice (some ⟨g, 0, none⟩) (n + 1) cap).ownBlock = some z := fun z e => by rw [e]; rfl
  have hvC : ∀ z, (Value.slice (some ⟨g, 0, none⟩) (n + 1) cap).ownBlock = some z → z = g := fun z e => by simpa [Value.ownBlock] using e.symm
  have H := hidd (And.intro h (And.intro h1 (And.intro hL (And.intro hx (And.intro h0 (And.intro ha (And.intro hc hp)))))))
  have HST := hidd hSt
  have HDEL := hidd hDel
  have HKEY := hidd hkey
  have HRX := hidd hrx
  have HFL := hidd hfl
  have hbl : b < w.heap.size := by
    rcases ha with ⟨_, e, _⟩ | ⟨y, hy, _, e, _⟩
    · rw [e]; exact hBl _ h.aC
    · rw [e]; exact hBl _ (h.aN y hy)
  have hbA : A b := by
    rcases ha with ⟨_, e, _⟩ | ⟨y, hy, _, e, _⟩
    · rw [e]; exact h.aC
    · rw [e]; exact h.aN y hy
  obtain ⟨g0, HG0⟩ : ∃ g0, Hid (g0 = lg L x.path.dropLast) := ⟨_, rfl⟩
  have hg1 : 1 ≤ g0 := by
    have := lg_del hw hx x.path.dropLast
    rw [if_pos rfl, ← HG0.out] at this
    omega
  have hg2 : g0 ≤ 256 := by have := lg_le L x.path.dropLast; rw [← HG0.out] at this; omega
  have hxb := hw.blk x hx
  clear h h1 hL hx ha hp hkl hv hSt hDel hlk hgl hown hrg hFg hxm hk hys hpl hq hkey hrx hw hnn hfl h0 hc bx
  go_enter Try.func43, Try.ntmps43
  go_wp2
  go_region_held3 (fun w' => w'.cell? ⟨c.C, 23, none⟩ = some (.map (some c.M)) ∧ w'.cell? ⟨w.heap.size, 0, none⟩ = some (.pointer (some ⟨x.at_, 0, none⟩)) ∧ w'.cell? ⟨x.at_, 0, none⟩ = some (.int .i64 (pl : Int)) ∧ w'.cell? ⟨x.at_, 1, none⟩ = some (.int .i64 a0) ∧ w'.cell? ⟨x.at_, 2, none⟩ = some (.int .i64 a1) ∧ w'.cell? ⟨x.at_, 3, none⟩ = some (.int .i64 a2) ∧ w'.cell? ⟨x.at_, 4, none⟩ = some (.int .i64 a3) ∧ w'.cell? ⟨x.at_, 5, none⟩ = some (.int .i64 a4) ∧ w'.cell? ⟨x.at_, 6, none⟩ = some (.int .i64 a5) ∧ w'.cell? ⟨x.at_, 7, none⟩ = some (.int .i64 a6) ∧ w'.cell? ⟨x.at_, 8, none⟩ = some (.int .i64 a7) ∧ w'.cell? ⟨x.at_, 9, none⟩ = some (.int .i64 a8) ∧ w'.cell? ⟨x.at_, 10, none⟩ = some (.int .i64 a9) ∧ w'.cell? ⟨x.at_, 11, none⟩ = some (.int .i64 a10) ∧ w'.cell? ⟨x.at_, 12, none⟩ = some (.int .i64 a11) ∧ w'.cell? ⟨x.at_, 13, none⟩ = some (.int .i64 a12) ∧ w'.cell? ⟨x.at_, 14, none⟩ = some (.int .i64 a13) ∧ w'.cell? ⟨x.at_, 15, none⟩ = some (.int .i64 a14) ∧ w'.cell? ⟨x.at_, 16, none⟩ = some (.int .i64 a15))
    (first | (with_reducible exact KV) | (with_reducible exact K9) | go_keep)
    (first
      | (go_at_call 66; with_reducible refine HDF.out.mono ?_; rintro e w9 ⟨F9, rfl, hr9, hF9, hc9⟩; have K9 := K19.out w9 (hc9.row H.out.2.1.row.drew hgC) (hc9.row HRX.out.drew hgx) (hc9.cell (by simp) hgB)))
  all_goals
    have kc : Chg (w.alloc (.cells #[.pointer (some ⟨x.at_, 0, none⟩)] 76)) w9.drew (fun z => (Value.slice (some ⟨g, 0, none⟩) (n + 1) cap).ownBlock = some z) := ((Chg.of_below _ (Below.refl _ (w.alloc (.cells #[.pointer (some ⟨x.at_, 0, none⟩)] 76))).drew).trans hc9 (fun z _ e => hvB z e)).post (Below.refl _ _).drew
    have hL9 : LstAt w9.drew c.O A (.slice (some ⟨g, 0, none⟩) n cap) (((withK L x.key).filter (fun y => decide (y ≠ x))).map Nd.ptr) := by
      refine ⟨?_, fun z hz => ?_⟩
      · rw [HFL.out]
        exact own_of_row hr9.drew (Nat.zero_le _) (by omega) hc2 (fun j hj => by rw [hF9 j hj, HFIL.out j hj])
      · simp [Value.ownBlock] at hz
        subst hz
        exact hgA
    obtain ⟨w3, r3, c3, g3⟩ := HST.out w9.drew (.slice (some ⟨g, 0, none⟩) n cap) _ kc hL9 (fun e => by have := HFL.out; rw [e] at this; simp at this; omega) (fun z hz => by simpa [Value.ownBlock] using hz)
    rw [HKEY.out] at r3
    have r3' : (Instr.mapUpdate 70 (.map (some c.M)) (.agg #[.int .i64 (pl : Int), .int .i64 a0, .int .i64 a1, .int .i64 a2, .int .i64 a3, .int .i64 a4, .int .i64 a5, .int .i64 a6, .int .i64 a7, .int .i64 a8, .int .i64 a9, .int .i64 a10, .int .i64 a11, .int .i64 a12, .int .i64 a13, .int .i64 a14, .int .i64 a15]) (.slice (some ⟨g, 0, none⟩) n cap)).run Try.prog w9.drew = .ok () w3 := r3
    clear r3 hL9
    have k3 : Chg (w.alloc (.cells #[.pointer (some ⟨x.at_, 0, none⟩)] 76)) w3 (fun z => z = c.M ∨ (Value.slice (some ⟨g, 0, none⟩) (n + 1) cap).ownBlock = some z) := (kc.imp (fun z _ e => Or.inr e)).trans c3 (fun z _ e => Or.inl e)
    have STG := hidd (H.out.2.1.stage H.out.2.2.1 k3 g3)
    have bx3 : w3.cell? ⟨w.heap.size, 0, none⟩ = some (.pointer (some ⟨x.at_, 0, none⟩)) := k3.cell (new_cell _ _ _) (fun e => e.elim hmB (fun e => hgB (hvC _ e)))
    have rx3 := k3.row HRX.out (fun e => e.elim hmx (fun e => hgx (hvC _ e)))
    have K3 := K19.out w3 STG.out.rows.row rx3 bx3
    have K9d := K19.out w9.drew (hc9.row H.out.2.1.row.drew hgC).drew (hc9.row HRX.out.drew hgx).drew (hc9.cell (by simp) hgB)
    have KW3 := hidd ((Chg.of_below A f1).trans k3 (fun z _ e => e.elim (fun e => by rw [e]; exact H.out.1.aM) (fun e => by rw [hvC _ e]; exact hgA.1)))
    have HRX3 := hidd rx3
    have BX3 := hidd bx3
    clear KV hlk2 HDF hr9 hF9 g3 c3 kc k3 rx3 bx3 hc9
    have hl0 : ((n : Int) == 0) = false := by simp; omega
    have hl1 : ¬ (n : Int) = 0 := by omega

    go_wp2
    go_region_held3 (fun w' => w'.cell? ⟨c.C, 23, none⟩ = some (.map (some c.M)) ∧ w'.cell? ⟨w.heap.size, 0, none⟩ = some (.pointer (some ⟨x.at_, 0, none⟩)) ∧ w'.cell? ⟨x.at_, 0, none⟩ = some (.int .i64 (pl : Int)) ∧ w'.cell? ⟨x.at_, 1, none⟩ = some (.int .i64 a0) ∧ w'.cell? ⟨x.at_, 2, none⟩ = some (.int .i64 a1) ∧ w'.cell? ⟨x.at_, 3, none⟩ = some (.int .i64 a2) ∧ w'.cell? ⟨x.at_, 4, none⟩ = some (.int .i64 a3) ∧ w'.cell? ⟨x.at_, 5, none⟩ = some (.int .i64 a4) ∧ w'.cell? ⟨x.at_, 6, none⟩ = some (.int .i64 a5) ∧ w'.cell? ⟨x.at_, 7, none⟩ = some (.int .i64 a6) ∧ w'.cell? ⟨x.at_, 8, none⟩ = some (.int .i64 a7) ∧ w'.cell? ⟨x.at_, 9, none⟩ = some (.int .i64 a8) ∧ w'.cell? ⟨x.at_, 10, none⟩ = some (.int .i64 a9) ∧ w'.cell? ⟨x.at_, 11, none⟩ = some (.int .i64 a10) ∧ w'.cell? ⟨x.at_, 12, none⟩ = some (.int .i64 a11) ∧ w'.cell? ⟨x.at_, 13, none⟩ = some (.int .i64 a12) ∧ w'.cell? ⟨x.at_, 14, none⟩ = some (.int .i64 a13) ∧ w'.cell? ⟨x.at_, 15, none⟩ = some (.int .i64 a14) ∧ w'.cell? ⟨x.at_, 16, none⟩ = some (.int .i64 a15))
      (first | (with_reducible exact K9) | (with_reducible exact K9d) | (with_reducible exact K3) | go_keep)
      (first
        | fail)
    clear K9 K9d K3 r3'
    have n17 : w3.cell? ⟨x.at_, 17, none⟩ = some (.pointer (some ⟨b, o, none⟩)) := HRX3.out.cell (i := 17) (by decide)
    have bx3 := BX3.out
    obtain ⟨b18, fb⟩ := STG.out.adr H.out.2.2.2.2.2.1
    rw [← HG0.out] at b18
    have eg : ((g0 - 1 : Nat) : Int) = (g0 : Int) - 1 := by omega
    have R4 := STG.out.rows.less H.out.1.well H.out.2.2.2.2.2.1
    rw [← HG0.out, eg] at R4
    have hOb : ¬ c.O = b := fun e => by
      have hO := STG.out.own
      rcases H.out.2.2.2.2.2.1 with ⟨_, e2, _⟩ | ⟨y, hy, _, e2, _⟩
      · exact type_apart STG.out.rows.row hO (by decide) (by rw [e, e2])
      · obtain ⟨_, _, _, hr⟩ := STG.out.rows.node y hy
        exact type_apart hr hO (by decide) (by rw [e, e2])
    have O4 := STG.out.own.setOther (a := ⟨b, o + 18, none⟩) hOb (.int .i64 ((g0 : Int) - 1))
    have bx4 := (Chg.of_set w3 b (o + 18) (.int .i64 ((g0 : Int) - 1))).cell BX3.out (fun (e : w.heap.size = b) => by omega)
    have FIN : Hid (∀ Z, Below (w3.setCell ⟨b, o + 18, none⟩ (.int .i64 ((g0 : Int) - 1))).heap.size (w3.setCell ⟨b, o + 18, none⟩ (.int .i64 ((g0 : Int) - 1))) Z → CacheAt (Z.setCell ⟨c.O, x.blk, none⟩ nilP) c A (delL L x) N) := by
      have := fun Z => STG.out.fin H.out.1.well H.out.2.2.2.1 H.out.2.2.2.2.1 H.out.1.aC H.out.1.aO H.out.1.aM H.out.1.aN H.out.2.2.2.2.2.1 (Z := Z)
      rw [← HG0.out, eg] at this
      exact this
    have KW4 := hidd (KW3.out.trans (Chg.of_set w3 b (o + 18) (.int .i64 ((g0 : Int) - 1))) (fun z _ e => by rw [e]; exact hbA))
    have RX4 : Hid (∃ F, (w3.setCell ⟨b, o + 18, none⟩ (.int .i64 ((g0 : Int) - 1))).rowIs x.at_ 78 21 F ∧ F 19 = .int .i64 x.blk) := by
      obtain ⟨_, _, _, hr⟩ := R4.node x H.out.2.2.2.1
      exact ⟨_, hr, rfl⟩
    go_wp2
    clear n17 b18 fb bx3
    generalize (w3.setCell ⟨b, o + 18, none⟩ (.int .i64 ((g0 : Int) - 1))) = w4 at *
    have c24 : w4.cell? ⟨c.C, 24, none⟩ = some (.slice (some ⟨c.O, 0, none⟩) c.B c.B) := R4.row.cell (i := 24) (by decide)
    have c0 : w4.cell? ⟨c.C, 0, none⟩ = some (.pointer (some ⟨c.pg, 0, none⟩)) := R4.row.cell (i := 0) (by decide)
    obtain ⟨F4, r4, e19⟩ := RX4.out
    have n19 : w4.cell? ⟨x.at_, 19, none⟩ = some (.int .i64 x.blk) := by rw [← e19]; exact r4.cell (i := 19) (by decide)
    have dO := O4.cell (i := x.blk) hxb
    have fO := O4.frozen
    have i0 : (0 : Int) ≤ (x.blk : Int) := by omega
    have i1 : (x.blk : Int) < (c.B : Int) := by omega
    have f4 : Below w4.heap.size w4 w4.drew := (Below.refl _ _).drew
    have C5 := hidd (FIN.out w4.drew f4)
    have hCO : c.C ≠ c.O := type_apart R4.row O4 (by decide)
    have hxO : x.at_ ≠ c.O := type_apart r4 O4 (by decide)
    have hBO : w.heap.size ≠ c.O := by have := hBl c.O H.out.1.aO; omega
    have KW5 := hidd ((KW4.out.post f4).trans (Chg.of_set w4.drew c.O x.blk nilP) (fun z _ e => by rw [e]; exact H.out.1.aO))
    have P5 := hidd ((H.out.2.2.2.2.2.2.2.chg KW5.out o1 o2 o3).fresh (Below.refl _ _).drew)
    have DR := hidd (drop_ok P5.out hxb (by rw [H.out.2.2.2.2.2.2.1]; decide) (by rw [H.out.2.2.2.2.2.2.1]; decide))
    have z0 := (Chg.of_set w4.drew c.O x.blk nilP).cell (fresh_cell f4 c0) hCO
    have zb := (Chg.of_set w4.drew c.O x.blk nilP).cell (fresh_cell f4 bx4) hBO
    have z19 := (Chg.of_set w4.drew c.O x.blk nilP).cell (fresh_cell f4 n19) hxO
    have NC : ¬ c.C = cb := fun e => o2 (by rw [← e]; exact H.out.1.aC)
    have NB : ¬ w.heap.size = cb := fun e => by have := H.out.2.2.2.2.2.2.2.cnts.lt; omega
    have NX : ¬ x.at_ = cb := fun e => o2 (by rw [← e]; exact H.out.1.aN x H.out.2.2.2.1)
    clear R4 RX4 r4 e19 FIN O4 STG
    unfold nilP at *
    go_region
    all_goals
      clear c24 c0 n19 dO fO bx4
      rw [show (w4.setCell ⟨c.O, x.blk, none⟩ (.pointer none)).drew = w4.drew.setCell ⟨c.O, x.blk, none⟩ (.pointer none) from rfl]
      generalize (w4.drew.setCell ⟨c.O, x.blk, none⟩ (.pointer none)) = w5 at *
      have zd0 := fresh_cell (Below.refl _ w5).drew z0
      have zdb := fresh_cell (Below.refl _ w5).drew zb
      have zd19 := fresh_cell (Below.refl _ w5).drew z19
      go_wp2
      go_region_held3 (fun w' => w'.cell? ⟨c.C, 0, none⟩ = some (.pointer (some ⟨c.pg, 0, none⟩)) ∧ w'.cell? ⟨w.heap.size, 0, none⟩ = some (.pointer (some ⟨x.at_, 0, none⟩)) ∧ w'.cell? ⟨x.at_, 19, none⟩ = some (.int .i64 x.blk))
        (first | (with_reducible exact ⟨zd0, zdb, zd19⟩) | (with_reducible exact KD) | go_keep)
        (first
          | (go_at_call 19; with_reducible refine DR.out.mono ?_; rintro e w12 ⟨rfl, P12, C12⟩; have KD := And.intro (Chg.cell C12 zd0 NC) (And.intro (Chg.cell C12 zdb NB) (Chg.cell C12 zd19 NX))))
      all_goals
        go_wp2
        go_end0
        refine ⟨rfl, (C5.out.fresh (Below.refl _ _).drew).chg C12 (fun z hz e => o2 (by rw [← (show z = cb from e)]; exact hz)), ?_, ((KW5.out.post (Below.refl _ _).drew).imp (fun z _ e => Or.inl e)).trans C12 (fun z _ e => Or.inr e)⟩
        have e1 : cnt x.blk - 1 = 0 := by rw [H.out.2.2.2.2.2.2.1]
        rw [e1] at P12
        exact P12
end Go.Proofs.Ytaalinlggjimcaa
