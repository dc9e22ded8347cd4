import Derived.Test.YtdceahebkohbjabScL
namespace Go.Proofs.Ytdceahebkohbjab
open Go.RowKit
/-! CopyInts, CopySeats. -/
set_option maxRecDepth 20000 in
set_option maxHeartbeats 1600000 in
theorem copyI_any {w : World} {ao : Option Addr} {n cap : Nat} {f : Nat → Int} (h : RdA w ao 1 n cap (fun i => .int .i64 (f i))) (hn : n ≤ 17592186043904) :
    Calls Try.prog 13 #[.slice ao n cap] w fun e w' => ∃ u c, e = .returned (.slice u n c) ∧ Own w' w.heap.size 3 1 (.slice u n c) n (fun i => .int .i64 (f i)) ∧ Below w.heap.size w w' := by
  have HH := hidd h
  clear h
  go_enter Try.func13, Try.ntmps13
  go_wp2
  go_loopw [3, 4] (fun v i wr => ∃ k : Nat, k ≤ n ∧ i = .int .i64 k ∧ Hid (Own wr w.heap.size 3 1 v k (fun i => .int .i64 (f i))) ∧ Hid (Below w.heap.size w wr)) (fun _ i _ => n - (intOf i).toNat)
  case atStart => exact ⟨0, by omega, rfl, own_nil _ _ _ _ _, Below.refl _ _⟩
  case round =>
    obtain ⟨k, hk, rfl, HO, HF⟩ := hrel
    by_cases hlt : k < n
    · obtain ⟨b1, o1, rfl, h1⟩ := (HH.out.fresh HF.out).one (by omega)
      have x1 := h1 k hlt
      clear h1
      have k1 : (k : Int) < (n : Int) := by omega
      have hsz := HF.out.size
      obtain ⟨av, kv, rfl, _⟩ := HO.out.rd
      go_wp2_with (at_builtin; refine wpList_app1 _ rfl _ _ 25 rfl w.heap.size 3 (.int .i64 0) 8 Try.underlying25 infoI rfl _ k (fun i => .int .i64 (f i)) rfl (HO.out.kept (fresh_alloc _ _)) _ 1 rfl (new_cell _ _ _) rfl (by omega) (by omega) (by simp; omega) ?_)
      intro v4 w4 ho4 ha4
      have HO4 := hidd ho4
      have HB4 := hidd (ha4.below (HF.out.alloc hsz _) (HO.out.kept (fresh_alloc _ _)) (Nat.le_refl _) (by simp; omega))
      obtain ⟨a4, k4, rfl, _⟩ := HO4.out.rd
      clear ho4 ha4
      go_wp2
      go_roundw
      case rel => exact ⟨k + 1, by omega, by go_num, HO4, HB4⟩
      case measure => simp [intOf]; omega
    · obtain rfl : k = n := by omega
      obtain ⟨av, kv, rfl, _⟩ := HO.out.rd
      go_wp2
      go_ret
      exact ⟨_, _, rfl, HO.out, HF.out⟩
/-- a seat but for where its blocks lie -/
def er (s : Se) : Se := { s with ho := none, hc := 0 }
def updS (S : Nat → Se) (k : Nat) (s : Se) : Nat → Se := fun i => if i = k then s else S i
theorem seF_upd (S : Nat → Se) (k : Nat) (s : Se) {j : Nat} (hj : j < k * 5) : seF (updS S k s) j = seF S j := by
  unfold seF updS
  rw [if_neg (by omega)]
theorem seF_updk (S : Nat → Se) (k : Nat) (s : Se) (j : Nat) (hj : j < 5) : seF (updS S k s) (k * 5 + j) = seC s j := by
  rw [seF_at _ _ _ hj]
  unfold updS
  rw [if_pos rfl]
structure CpS (w wr : World) (v : Value) (k : Nat) (S S' : Nat → Se) : Prop where
  own : Own wr w.heap.size 32 5 v k (seF S')
  same : ∀ i, i < k → er (S' i) = er (S i)
  held : ∀ i, i < k → Own wr w.heap.size 3 1 (.slice (S' i).ho (S i).hn (S' i).hc) (S i).hn (fun j => .int .i64 ((S i).H j))
theorem er_hn {s t : Se} (h : er s = er t) : s.hn = t.hn := by
  have q : (er s).hn = (er t).hn := by rw [h]
  exact q
theorem er_H {s t : Se} (h : er s = er t) : s.H = t.H := by
  have q : (er s).H = (er t).H := by rw [h]
  exact q
theorem er_id {s t : Se} (h : er s = er t) : s.id = t.id := by
  have q : (er s).id = (er t).id := by rw [h]
  exact q
theorem er_kn {s t : Se} (h : er s = er t) : s.kn = t.kn := by
  have q : (er s).kn = (er t).kn := by rw [h]
  exact q
theorem er_ca {s t : Se} (h : er s = er t) : s.ca = t.ca := by
  have q : (er s).ca = (er t).ca := by rw [h]
  exact q
theorem er_wa {s t : Se} (h : er s = er t) : s.wa = t.wa := by
  have q : (er s).wa = (er t).wa := by rw [h]
  exact q
set_option maxRecDepth 100000 in
set_option maxHeartbeats 1600000 in
theorem copyS_own {w : World} {ao : Option Addr} {n cap : Nat} {S : Nat → Se} (h : SeA w ao n cap S) (hn : n * 56 ≤ 140737488351232) (hh : ∀ i, i < n → (S i).hn ≤ 17592186043904) :
    Calls Try.prog 12 #[.slice ao n cap] w fun e w' => ∃ u c S', e = .returned (.slice u n c) ∧ CpS w w' (.slice u n c) n S S' ∧ Below w.heap.size w w' := by
  have HH := hidd h
  have HHH := hidd hh
  clear h hh
  go_enter Try.func12, Try.ntmps12
  go_wp2
  go_loopw [3, 4] (fun v i wr => ∃ (k : Nat) (S' : Nat → Se), k ≤ n ∧ i = .int .i64 k ∧ Hid (CpS w wr v k S S') ∧ Hid (Below w.heap.size w wr)) (fun _ i _ => n - (intOf i).toNat)
  case atStart => exact ⟨0, S, by omega, rfl, ⟨own_nil _ _ _ _ _, fun i hi => absurd hi (by omega), fun i hi => absurd hi (by omega)⟩, Below.refl _ _⟩
  case round =>
    obtain ⟨k, S', hk, rfl, HC, HF⟩ := hrel
    by_cases hlt : k < n
    · obtain ⟨b1, o1, rfl, h1⟩ := (HH.out.fresh HF.out).rd.seat (by omega)
      obtain ⟨x1, x2, x3, x4, x5⟩ := h1 k hlt
      have HX5 := hidd x5
      clear h1
      have k1 : (k : Int) < (n : Int) := by omega
      have HCI : Hid (∀ z, Below w.heap.size w z → Calls Try.prog 13 #[.slice (S k).ho (S k).hn (S k).hc] z fun e w' => ∃ u c, e = .returned (.slice u (S k).hn c) ∧ Own w' z.heap.size 3 1 (.slice u (S k).hn c) (S k).hn (fun i => .int .i64 ((S k).H i)) ∧ Below z.heap.size z w') := fun z hz => copyI_any ((HH.out.hd k hlt).fresh hz) (HHH.out k hlt)
      obtain ⟨y0, HY0⟩ : ∃ y, Hid (y = (S k).id) := ⟨_, rfl⟩
      obtain ⟨y1, HY1⟩ : ∃ y, Hid (y = (S k).kn) := ⟨_, rfl⟩
      obtain ⟨y2, HY2⟩ : ∃ y, Hid (y = (S k).ca) := ⟨_, rfl⟩
      obtain ⟨y3, HY3⟩ : ∃ y, Hid (y = (S k).wa) := ⟨_, rfl⟩
      obtain ⟨hn0, HHN⟩ : ∃ y, Hid (y = (S k).hn) := ⟨_, rfl⟩
      obtain ⟨hc0, HHC⟩ : ∃ y, Hid (y = (S k).hc) := ⟨_, rfl⟩
      obtain ⟨ho, HHO⟩ : ∃ y, Hid (y = (S k).ho) := ⟨_, rfl⟩
      rw [← HHN.out, ← HHC.out, ← HHO.out] at x5 HCI
      rw [← HY0.out] at x1
      rw [← HY1.out] at x2
      rw [← HY2.out] at x3
      rw [← HY3.out] at x4
      obtain ⟨av, kv, rfl, _⟩ := HC.out.own.rd
      go_upto_region 6 with fail
      have HF3 := hidd (fresh_alloc wr (.cells #[.int .i64 y0, .int .i64 y1, .int .i64 y2, .int .i64 y3, .slice ho hn0 hc0] 32))
      have HBW := hidd (HF.out.trans (HF3.out.mono HF.out.size))
      have HRW : Hid ((wr.alloc (.cells #[.int .i64 y0, .int .i64 y1, .int .i64 y2, .int .i64 y3, .slice ho hn0 hc0] 32)).rowIs wr.heap.size 32 5 (seC (S k))) := World.rowIs_alloc wr #[.int .i64 y0, .int .i64 y1, .int .i64 y2, .int .i64 y3, .slice ho hn0 hc0] 32 (seC (S k)) (fun i hi => by
        rw [HY0.out, HY1.out, HY2.out, HY3.out, HHN.out, HHC.out, HHO.out]
        simp at hi
        have : i = 0 ∨ i = 1 ∨ i = 2 ∨ i = 3 ∨ i = 4 := by omega
        rcases this with rfl | rfl | rfl | rfl | rfl <;> rfl)
      have x5' := fresh_cell HF3.out x5
      clear x1 x2 x3 x4 x5
      generalize (wr.alloc (.cells #[.int .i64 y0, .int .i64 y1, .int .i64 y2, .int .i64 y3, .slice ho hn0 hc0] 32)) = w3 at *
      obtain ⟨xb, HXB⟩ : ∃ x, Hid (x = wr.heap.size) := ⟨_, rfl⟩
      rw [← HXB.out] at HRW ⊢
      have HCX := hidd (HCI.out w3 HBW.out)
      go_upto_region 7 with (go_at_call 13; with_reducible refine HCX.out.mono ?_; rintro e w4 ⟨u4, c4, rfl, ho4, hb4⟩; have g4 := (HRW.out.of_block (hb4.block _ HRW.out.lt)).cell (i := 4) (by decide); have gf := (HRW.out.of_block (hb4.block _ HRW.out.lt)).frozen)
      have HR4 := hidd (HRW.out.of_block (hb4.block _ HRW.out.lt))
      have HB4 := hidd (HBW.out.trans (hb4.mono HBW.out.size))
      have HB34 := hidd (HF3.out.trans (hb4.mono HF3.out.size))
      have HO4 := hidd ho4
      have HCC := hidd (Chg.of_set w4 xb 4 (.slice u4 hn0 c4))
      have HR5 := hidd (HR4.out.set 4 (.slice u4 hn0 c4))
      have HOI5 := hidd (HO4.out.chg HCC.out (fun x hx e => HO4.out.apart HR4.out (by decide) (by rw [hx, e])))
      have HXW : Hid (w.heap.size ≤ xb) := by have := HF.out.size; have := HXB.out; show _ ≤ _; omega
      have HC5 : Hid (CpS w (w4.setCell ⟨xb, 4, none⟩ (.slice u4 hn0 c4)) (.slice av k kv) k S S') := ⟨(HC.out.own.kept HB34.out).chg HCC.out (fun x hx e => by have := (HC.out.own.lt x hx).2; have := HXB.out; omega), HC.out.same, fun i hi => ((HC.out.held i hi).kept HB34.out).chg HCC.out (fun x hx e => by have := ((HC.out.held i hi).lt x hx).2; have := HXB.out; omega)⟩
      have HB5 := hidd (HB4.out.setCell (p := ⟨xb, 4, none⟩) HXW.out (.slice u4 hn0 c4))
      clear ho4 hb4 g4 gf x5'
      generalize w4.setCell ⟨xb, 4, none⟩ (.slice u4 hn0 c4) = w5 at *
      have s0 : w5.cell? ⟨xb, 0, none⟩ = some (.int .i64 y0) := by rw [HR5.out.cell (i := 0) (by decide), HY0.out]; rfl
      have s1 : w5.cell? ⟨xb, 1, none⟩ = some (.int .i64 y1) := by rw [HR5.out.cell (i := 1) (by decide), HY1.out]; rfl
      have s2 : w5.cell? ⟨xb, 2, none⟩ = some (.int .i64 y2) := by rw [HR5.out.cell (i := 2) (by decide), HY2.out]; rfl
      have s3 : w5.cell? ⟨xb, 3, none⟩ = some (.int .i64 y3) := by rw [HR5.out.cell (i := 3) (by decide), HY3.out]; rfl
      have s4 : w5.cell? ⟨xb, 4, none⟩ = some (.slice u4 hn0 c4) := HR5.out.cell (i := 4) (by decide)
      obtain ⟨sn, HSN⟩ : ∃ sn : Se, Hid (sn = ⟨y0, y1, y2, y3, u4, hn0, c4, (S k).H⟩) := ⟨_, rfl⟩
      have HES : Hid (er sn = er (S k)) := by
        rw [HSN.out, HY0.out, HY1.out, HY2.out, HY3.out, HHN.out]
        rfl
      have HOX : Hid (Own w5 w.heap.size 32 5 (.slice av k kv) k (seF (updS S' k sn))) := HC5.out.own.congr (fun j hj => (seF_upd S' k sn hj).symm)
      have HNC : Hid (∀ (w0 : World) (t : TypeId) (j : Nat), j < 1 * 5 → (w0.alloc (.cells #[.int .i64 y0, .int .i64 y1, .int .i64 y2, .int .i64 y3, .slice u4 hn0 c4] t)).cell? ⟨w0.heap.size, j, none⟩ = some (seF (updS S' k sn) (k * 5 + j))) := fun w0 t j hj => by
        obtain ⟨t0, t1, t2, t3, t4⟩ := box5 w0 (.int .i64 y0) (.int .i64 y1) (.int .i64 y2) (.int .i64 y3) (.slice u4 hn0 c4) t
        rw [seF_updk _ _ _ _ (by omega), HSN.out]
        have : j = 0 ∨ j = 1 ∨ j = 2 ∨ j = 3 ∨ j = 4 := by omega
        rcases this with rfl | rfl | rfl | rfl | rfl
        · exact t0
        · exact t1
        · exact t2
        · exact t3
        · exact t4
      have hsz := HB5.out.size
      go_wp2_with (at_builtin; refine wpList_app _ rfl _ _ 24 rfl w.heap.size 32 _ 5 56 Try.underlying24 infoSe rfl (by decide) _ k (seF (updS S' k sn)) rfl (HOX.out.kept (fresh_alloc _ _)) _ 1 1 rfl (HNC.out _ _) (fun j _ => seF_one _ _) (by decide) (by unfold maxLen; omega) (by omega) (by simp; omega) ?_)
      intro v6 w6 ho6 ha6
      have HO6 := hidd ho6
      have HB6 := hidd (ha6.below (HB5.out.alloc hsz _) (HOX.out.kept (fresh_alloc _ _)) (Nat.le_refl _) (by simp; omega))
      have HFK : Hid (∀ {e : TypeId} {sz n9 base : Nat} {u : Value} {cs : Nat → Value}, e ≠ 32 → Own w5 base e sz u n9 cs → Own w6 base e sz u n9 cs) := fun hne hu => ha6.own (hu.kept (fresh_alloc _ _)) (HOX.out.offT hu (fun q => hne q.symm))
      obtain ⟨a6, k6, rfl, _⟩ := HO6.out.rd
      have HC6 : Hid (CpS w w6 (.slice a6 (k + 1) k6) (k + 1) S (updS S' k sn)) := ⟨HO6.out, fun i hi => (by
        unfold updS
        by_cases e : i = k
        · rw [if_pos e, e]; exact HES.out
        · rw [if_neg e]; exact HC.out.same i (by omega)), fun i hi => (by
        unfold updS
        by_cases e : i = k
        · rw [if_pos e, e, HSN.out, ← HHN.out]
          exact (HFK.out (by decide) HOI5.out).weaken (by have := HBW.out.size; omega)
        · rw [if_neg e]; exact HFK.out (by decide) (HC5.out.held i (by omega)))⟩
      clear ho6 ha6 s0 s1 s2 s3 s4
      go_wp2
      go_roundw
      case rel => exact ⟨k + 1, updS S' k sn, by omega, by go_num, HC6, HB6⟩
      case measure => simp [intOf]; omega
    · obtain rfl : k = n := by omega
      obtain ⟨av, kv, rfl, _⟩ := HC.out.own.rd
      go_wp2
      go_ret
      exact ⟨_, _, S', rfl, HC.out, HF.out⟩
theorem CpS.seats {w wr : World} {u : Option Addr} {n c : Nat} {S S' : Nat → Se} (h : CpS w wr (.slice u n c) n S S') : SeA wr u n c S' :=
  ⟨own_rda h.own, fun i hi => (by
    have := own_rda (h.held i hi)
    rw [er_hn (h.same i hi), er_H (h.same i hi)]
    exact this)⟩
theorem CpS.cap0 {w wr : World} {u : Option Addr} {n c : Nat} {S S' : Nat → Se} (h : CpS w wr (.slice u n c) n S S') (e : u = none) : c = 0 := by
  rcases h.own.2 with ⟨q, _⟩ | ⟨g, _, _, q, _⟩
  · cases q; rfl
  · cases q; cases e
theorem copyS_any {w : World} {ao : Option Addr} {n cap : Nat} {S : Nat → Se} (h : SeA w ao n cap S) (hn : n * 56 ≤ 140737488351232) (hh : ∀ i, i < n → (S i).hn ≤ 17592186043904) :
    Calls Try.prog 12 #[.slice ao n cap] w fun e w' => ∃ u c S', e = .returned (.slice u n c) ∧ SeA w' u n c S' ∧ (u = none → c = 0) ∧ (∀ i, i < n → er (S' i) = er (S i)) ∧ Below w.heap.size w w' := by
  refine (copyS_own h hn hh).mono ?_
  rintro e w' ⟨u, c, S', rfl, hc, hb⟩
  exact ⟨u, c, S', rfl, hc.seats, hc.cap0, hc.same, hb⟩
end Go.Proofs.Ytdceahebkohbjab
