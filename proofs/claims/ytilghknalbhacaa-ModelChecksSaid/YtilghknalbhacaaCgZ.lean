import Derived.Test.YtilghknalbhacaaCpG
import Derived.Test.YtilghknalbhacaaCpH
import Derived.Test.YtilghknalbhacaaCPX
namespace Go.Proofs.Ytilghknalbhacaa
open Go.RowKit
/-! The copies of weights, within the form's reach. -/
structure LyZb (l : LyD) : Prop where
  q : l.q.n ≤ 140737488351232
  k : l.k.n ≤ 140737488351232
  v : l.v.n ≤ 140737488351232
  o : l.o.n ≤ 140737488351232
  g : l.g.n ≤ 140737488351232
  u : l.u.n ≤ 140737488351232
  d : l.d.n ≤ 140737488351232
structure WtZb (x : WtD) : Prop where
  E : x.E.n ≤ 140737488351232
  Q : x.Q.n ≤ 140737488351232
  T : x.tn * 16 ≤ 140737488351232
  F : x.F.n ≤ 140737488351232
  Y : x.yn * 384 ≤ 140737488351232
  M : x.mn * 40 ≤ 140737488351232
  m : ∀ k, k < x.mn → (x.md k).n ≤ 140737488351232
  y1 : ∀ k, k < x.yn → (x.ly k).n1.n ≤ 140737488351232
  y2 : ∀ k, k < x.yn → (x.ly k).n2.n ≤ 140737488351232
  ym : ∀ k, k < x.yn → LyZb (x.ly k)
set_option maxRecDepth 20000 in
set_option maxHeartbeats 1600000 in
theorem copyNZ {w : World} {ao : Option Addr} {n cap : Nat} {f : Nat → Int} (h : RdA w ao 1 n cap (fun i => .int .i8 (f i))) (hn : n ≤ 140737488351232) :
    Calls Try.prog 48 #[.slice ao n cap] w fun e w' => ∃ u uc, e = .returned (.slice u n uc) ∧ Own w' w.heap.size 84 1 (.slice u n uc) n (fun i => .int .i8 (f i)) ∧ Below w.heap.size w w' := by
  have hn2 : n ≤ 9223372036854775807 := by omega
  go_enter Try.func48, Try.ntmps48
  go_wp2
  go_loopw [3, 4] (fun v i wr => ∃ k : Nat, k ≤ n ∧ i = .int .i64 k ∧ Own wr w.heap.size 84 1 v k (fun j => .int .i8 (f j)) ∧ Below w.heap.size w wr) (fun _ i _ => n - (intOf i).toNat)
  case atStart => exact ⟨0, by omega, rfl, own_nil _ _ _ _ _, Below.refl _ _⟩
  case round =>
    obtain ⟨k, hk, rfl, hown, hf⟩ := hrel
    have hsz := hf.size
    by_cases hlt : k < n
    · obtain ⟨b1, o1, rfl, h1⟩ := (h.fresh hf).one (by omega)
      have d := h1 k hlt
      have hle := h.le
      have HX : Hid (∀ (w0 : World) (t : TypeId), (w0.alloc (.cells #[.int .i8 (f k)] t)).cell? ⟨w0.heap.size, 0, none⟩ = some ((fun j => Value.int .i8 (f j)) k)) := fun w0 t => new_cell _ _ _
      clear h1
      generalize f k = y at d HX
      go_wp2_with (at_builtin; refine wpList_app1 _ rfl _ _ 27 rfl w.heap.size 84 (.int .i8 0) 1 Try.underlying27 infoI8 rfl _ k (fun j => .int .i8 (f j)) rfl (hown.kept (fresh_alloc _ _)) _ 1 rfl (HX.out _ _) rfl (by omega) (by omega) (by simp; omega) ?_)
      intro v' w1 hown' happ
      have hf1 := happ.below (hf.alloc hsz _) (hown.kept (fresh_alloc _ _)) (Nat.le_refl _) (by simp; omega)
      clear happ hown
      go_wp2
      go_roundw
      case rel => exact ⟨k + 1, by omega, by go_num, hown', hf1⟩
      case measure => simp [intOf]; omega
    · obtain rfl : k = n := by omega
      obtain ⟨u, uc, rfl, hu⟩ := hown.rd
      go_wp2
      go_ret
      exact ⟨u, uc, rfl, hown, hf⟩
set_option maxRecDepth 20000 in
set_option maxHeartbeats 1600000 in
theorem copyTZ {w : World} {ao : Option Addr} {n cap : Nat} {C S : Nat → Int} (h : RdA w ao 2 n cap (tcs C S)) (hn : n * 16 ≤ 140737488351232) :
    Calls Try.prog 46 #[.slice ao n cap] w fun e w' => ∃ u uc, e = .returned (.slice u n uc) ∧ Own w' w.heap.size 97 2 (.slice u n uc) n (tcs C S) ∧ Below w.heap.size w w' := by
  have hn2 : n ≤ 9223372036854775807 := by omega
  have HT : Hid (∀ k, tcs C S (k * 2) = .int .i64 (C k) ∧ tcs C S (k * 2 + 1) = .int .i64 (S k)) := fun k => by
    unfold tcs
    rw [if_pos (by omega), if_neg (by omega), show k * 2 / 2 = k by omega, show (k * 2 + 1) / 2 = k by omega]
    exact ⟨rfl, rfl⟩
  have HH := hidd h
  have hle := h.le
  clear h
  go_enter Try.func46, Try.ntmps46
  go_wp2
  go_loopw [3, 4] (fun v i wr => ∃ k : Nat, k ≤ n ∧ i = .int .i64 k ∧ Own wr w.heap.size 97 2 v k (tcs C S) ∧ Below w.heap.size w wr) (fun _ i _ => n - (intOf i).toNat)
  case atStart => exact ⟨0, by omega, rfl, own_nil _ _ _ _ _, Below.refl _ _⟩
  case round =>
    obtain ⟨k, hk, rfl, hown, hf⟩ := hrel
    have hsz := hf.size
    by_cases hlt : k < n
    · obtain ⟨b1, o1, rfl, h1⟩ := (HH.out.fresh hf).at_ (by omega)
      obtain ⟨e0, e1⟩ := HT.out k
      have d0 := h1 (k * 2) (by omega)
      have d1 := h1 (k * 2 + 1) (by omega)
      rw [e0] at d0
      rw [e1, ← Nat.add_assoc] at d1
      have HX : Hid (∀ (w0 : World) (t : TypeId) (i : Nat), i < 1 * 2 → (w0.alloc (.cells #[.int .i64 (C k), .int .i64 (S k)] t)).cell? ⟨w0.heap.size, i, none⟩ = some (tcs C S (k * 2 + i))) := fun w0 t i hi => by
        match i, hi with
        | 0, _ => show _ = some (tcs C S (k * 2)); rw [e0]; simp
        | 1, _ => rw [e1]; simp
      have HONE : Hid (∀ i, i < 1 * 2 → (tcs C S (k * 2 + i)).oneCell' = true) := fun i hi => by
        match i, hi with
        | 0, _ => show (tcs C S (k * 2)).oneCell' = true; rw [e0]; rfl
        | 1, _ => rw [e1]; rfl
      clear h1 e0 e1
      generalize C k = y0 at *
      generalize S k = y1 at *
      have HO := hidd hown
      obtain ⟨v2, c2, rfl, hrd⟩ := hown.rd
      clear hown hrd
      go_wp2_with (at_builtin; refine wpList_app _ rfl _ _ 30 rfl w.heap.size 97 (.agg #[.int .i64 0, .int .i64 0]) 2 16 Try.underlying30 infoTu rfl (by decide) _ k (tcs C S) rfl (HO.out.kept (fresh_alloc _ _)) _ 1 1 rfl (HX.out _ _) HONE.out (by decide) (by unfold maxLen; omega) (by omega) (by simp; omega) ?_)
      intro v' w1 hown' happ
      have hf1 := happ.below (hf.alloc hsz _) (HO.out.kept (fresh_alloc _ _)) (Nat.le_refl _) (by simp; omega)
      clear happ
      go_wp2
      go_roundw
      case rel => exact ⟨k + 1, by omega, by go_num, hown', hf1⟩
      case measure => simp [intOf]; omega
    · obtain rfl : k = n := by omega
      obtain ⟨u, uc, rfl, hu⟩ := hown.rd
      go_wp2
      go_ret
      exact ⟨u, uc, rfl, hown, hf⟩
set_option maxRecDepth 20000 in
set_option maxHeartbeats 2000000 in
theorem copyMZ {w : World} {m : MtD} (h : MtR w m) (hn : m.n ≤ 140737488351232) :
    Calls Try.prog 45 #[.agg #[.int .i64 m.R, .int .i64 m.C, .slice m.O m.n m.c]] w fun e w' => ∃ u c, e = .returned (.agg #[.int .i64 m.R, .int .i64 m.C, .slice u m.n c]) ∧ Own w' w.heap.size 84 1 (.slice u m.n c) m.n (fun i => .int .i8 (m.f i)) ∧ Below w.heap.size w w' := by
  have f1 := fresh_alloc w (.cells #[.int .i64 m.R, .int .i64 m.C, .slice m.O m.n m.c] 29)
  have f0 := fresh_trans f1 (fresh_alloc (w.alloc (.cells #[.int .i64 m.R, .int .i64 m.C, .slice m.O m.n m.c] 29)) (.cells #[.int .i64 0, .int .i64 0, .slice none 0 0] 29))
  have R1 := World.rowIs_alloc3 w (.int .i64 m.R) (.int .i64 m.C) (.slice m.O m.n m.c) 29
  have R2 := World.rowIs_alloc3 (w.alloc (.cells #[.int .i64 m.R, .int .i64 m.C, .slice m.O m.n m.c] 29)) (.int .i64 0) (.int .i64 0) (.slice none 0 0) 29
  have HR1 := hidd (R1.alloc (.cells #[.int .i64 0, .int .i64 0, .slice none 0 0] 29))
  have HR2 : Hid (((w.alloc (.cells #[.int .i64 m.R, .int .i64 m.C, .slice m.O m.n m.c] 29)).alloc (.cells #[.int .i64 0, .int .i64 0, .slice none 0 0] 29)).rowIs (w.heap.size + 1) 29 3 (row3 (.int .i64 0) (.int .i64 0) (.slice none 0 0))) := hidd (by simpa using R2)
  clear R1 R2
  go_enter Try.func45, Try.ntmps45
  go_upto_region 1 with fail
  generalize hwa : (w.alloc (.cells #[.int .i64 m.R, .int .i64 m.C, .slice m.O m.n m.c] 29)).alloc (.cells #[.int .i64 0, .int .i64 0, .slice none 0 0] 29) = wa at *
  have hsa : wa.heap.size = w.heap.size + 2 := by rw [← hwa]; simp
  clear hwa f1
  have HC : Hid (∀ z, Below wa.heap.size wa z → Calls Try.prog 48 #[.slice m.O m.n m.c] z fun e w' => ∃ u c, e = .returned (.slice u m.n c) ∧ Own w' wa.heap.size 84 1 (.slice u m.n c) m.n (fun i => .int .i8 (m.f i)) ∧ Below wa.heap.size wa w') := fun z hz => (copyNZ (h.rd.fresh (fresh_trans f0 hz)) hn).mono fun e w' ⟨u, c, h1, h2, h3⟩ => ⟨u, c, h1, h2.weaken hz.size, fresh_trans hz h3⟩
  have HRR : Hid (∀ z, Below wa.heap.size wa z → (z.cell? ⟨w.heap.size, 0, none⟩ = some (.int .i64 m.R) ∧ z.cell? ⟨w.heap.size, 1, none⟩ = some (.int .i64 m.C) ∧ z.cell? ⟨w.heap.size, 2, none⟩ = some (.slice m.O m.n m.c)) ∧ (z.cell? ⟨w.heap.size + 1, 0, none⟩ = some (.int .i64 0) ∧ z.cell? ⟨w.heap.size + 1, 1, none⟩ = some (.int .i64 0) ∧ z.cell? ⟨w.heap.size + 1, 2, none⟩ = some (.slice none 0 0)) ∧ ∀ j, z.frozen? ⟨w.heap.size + 1, j, none⟩ = false) := fun z hz => by
    have q1 := row_fresh HR1.out hz
    have q2 := row_fresh HR2.out hz
    exact ⟨⟨q1.cell (i := 0) (by decide), q1.cell (i := 1) (by decide), q1.cell (i := 2) (by decide)⟩, ⟨q2.cell (i := 0) (by decide), q2.cell (i := 1) (by decide), q2.cell (i := 2) (by decide)⟩, q2.frozen⟩
  have fd : Below wa.heap.size wa wa.drew := (Below.refl _ _).drew
  obtain ⟨⟨a0, a1, a2⟩, ⟨a3, a4, a5⟩, a6⟩ := HRR.out _ fd
  have HFIN : Hid (∀ (z : World) (u : Option Addr) (c : Nat), Below wa.heap.size wa z → Own z wa.heap.size 84 1 (.slice u m.n c) m.n (fun i => .int .i8 (m.f i)) → (((z.setCell ⟨w.heap.size + 1, 0, none⟩ (.int .i64 m.R)).setCell ⟨w.heap.size + 1, 1, none⟩ (.int .i64 m.C)).setCell ⟨w.heap.size + 1, 2, none⟩ (.slice u m.n c)).rangeAt (w.heap.size + 1) 0 [.int .i64 m.R, .int .i64 m.C, .slice u m.n c] ∧ Own (((z.setCell ⟨w.heap.size + 1, 0, none⟩ (.int .i64 m.R)).setCell ⟨w.heap.size + 1, 1, none⟩ (.int .i64 m.C)).setCell ⟨w.heap.size + 1, 2, none⟩ (.slice u m.n c)) w.heap.size 84 1 (.slice u m.n c) m.n (fun i => .int .i8 (m.f i)) ∧ Below w.heap.size w (((z.setCell ⟨w.heap.size + 1, 0, none⟩ (.int .i64 m.R)).setCell ⟨w.heap.size + 1, 1, none⟩ (.int .i64 m.C)).setCell ⟨w.heap.size + 1, 2, none⟩ (.slice u m.n c))) := fun z u c hz ho => by
    have q2 := row_fresh HR2.out hz
    have hq := ((q2.set 0 (.int .i64 m.R)).set 1 (.int .i64 m.C)).set 2 (.slice u m.n c)
    have hne : (Value.slice u m.n c).ownBlock ≠ some (w.heap.size + 1) := fun e => by have := (ho.lt _ e).1; omega
    refine ⟨fun j v hv => ?_, (Own.set3 ho hne).weaken (by omega), (((fresh_trans f0 hz).setCell (Nat.le_succ _) _).setCell (Nat.le_succ _) _).setCell (Nat.le_succ _) _⟩
    match j, hv with
    | 0, hv => rw [← Option.some.inj hv]; exact hq.cell (i := 0) (by decide)
    | 1, hv => rw [← Option.some.inj hv]; exact hq.cell (i := 1) (by decide)
    | 2, hv => rw [← Option.some.inj hv]; exact hq.cell (i := 2) (by decide)
    | j + 3, hv => cases hv
  go_region_with (go_at_call 48; with_reducible refine (HC.out _ fd).mono ?_; rintro e w7 ⟨u, c, rfl, o7, g7⟩; obtain ⟨⟨b0, b1, b2⟩, ⟨b3, b4, b5⟩, b6⟩ := HRR.out _ g7)
  all_goals
    go_wp2
    refine bodyPost_ret (v := .agg #[.int .i64 m.R, .int .i64 m.C, .slice u m.n c]) ?_ ?_ ?_
    · exact results_cell_mid Try.results45 _ _ (w.heap.size + 1) [.int .i64 m.R, .int .i64 m.C, .slice u m.n c] _ rfl (HFIN.out w7 u c g7 o7).1 Try.underlying29 rfl (by kernel_rfl)
    · rfl
    · exact ⟨u, c, rfl, (HFIN.out w7 u c g7 o7).2.1, (HFIN.out w7 u c g7 o7).2.2⟩
set_option maxRecDepth 100000 in
set_option maxHeartbeats 80000000 in
theorem copyLZ {w : World} {l : LyD} (h : LyR w l) (hB : LyZb l) (b1 : l.n1.n ≤ 140737488351232) (b2 : l.n2.n ≤ 140737488351232) :
    Calls Try.prog 47 #[.agg #[.slice l.n1.O l.n1.n l.n1.c, .slice l.n2.O l.n2.n l.n2.c, .int .i64 l.q.R, .int .i64 l.q.C, .slice l.q.O l.q.n l.q.c, .int .i64 l.k.R, .int .i64 l.k.C, .slice l.k.O l.k.n l.k.c, .int .i64 l.v.R, .int .i64 l.v.C, .slice l.v.O l.v.n l.v.c, .int .i64 l.o.R, .int .i64 l.o.C, .slice l.o.O l.o.n l.o.c, .int .i64 l.g.R, .int .i64 l.g.C, .slice l.g.O l.g.n l.g.c, .int .i64 l.u.R, .int .i64 l.u.C, .slice l.u.O l.u.n l.u.c, .int .i64 l.d.R, .int .i64 l.d.C, .slice l.d.O l.d.n l.d.c, .int .i64 (l.sh 0), .int .i64 (l.sh 1), .int .i64 (l.sh 2), .int .i64 (l.sh 3), .int .i64 (l.sh 4), .int .i64 (l.sh 5), .int .i64 (l.sh 6)]] w fun e w' => ∃ l', e = .returned (.agg (lyA l')) ∧ LyO w w' l' ∧ SmL l l' ∧ Below w.heap.size w w' := by
  have HK0' := Cl.start w l
  have RG' := Cl.range w l
  have hsz := Cl.size w l
  have Hn1 : Hid (∀ (z : World) (l' : LyD), Cl w z l l' → Calls Try.prog 48 #[.slice l.n1.O l.n1.n l.n1.c] z fun e w' => ∃ u c, e = .returned (.slice u l.n1.n c) ∧ Own w' (w.heap.size + 2) 84 1 (.slice u l.n1.n c) l.n1.n (fun i => .int .i8 (l.n1.f i)) ∧ Cl w w' l l' ∧ Below z.heap.size z w') := fun z l' hz => (copyNZ (h.n1.rd.fresh hz.low) b1).mono fun e w' ⟨u, c, h1, h2, h3⟩ => ⟨u, c, h1, h2.weaken hz.big, hz.fresh h3, h3⟩
  have Hn2 : Hid (∀ (z : World) (l' : LyD), Cl w z l l' → Calls Try.prog 48 #[.slice l.n2.O l.n2.n l.n2.c] z fun e w' => ∃ u c, e = .returned (.slice u l.n2.n c) ∧ Own w' (w.heap.size + 2) 84 1 (.slice u l.n2.n c) l.n2.n (fun i => .int .i8 (l.n2.f i)) ∧ Cl w w' l l' ∧ Below z.heap.size z w') := fun z l' hz => (copyNZ (h.n2.rd.fresh hz.low) b2).mono fun e w' ⟨u, c, h1, h2, h3⟩ => ⟨u, c, h1, h2.weaken hz.big, hz.fresh h3, h3⟩
  have Hm0 : Hid (∀ (z : World) (l' : LyD), Cl w z l l' → Calls Try.prog 45 #[.agg #[.int .i64 l.q.R, .int .i64 l.q.C, .slice l.q.O l.q.n l.q.c]] z fun e w' => ∃ u c, e = .returned (.agg #[.int .i64 l.q.R, .int .i64 l.q.C, .slice u l.q.n c]) ∧ Own w' (w.heap.size + 2) 84 1 (.slice u l.q.n c) l.q.n (fun i => .int .i8 (l.q.f i)) ∧ Cl w w' l l' ∧ Below z.heap.size z w') := fun z l' hz => (copyMZ (h.q.fresh hz.low) hB.q).mono fun e w' ⟨u, c, h1, h2, h3⟩ => ⟨u, c, h1, h2.weaken hz.big, hz.fresh h3, h3⟩
  have Hm1 : Hid (∀ (z : World) (l' : LyD), Cl w z l l' → Calls Try.prog 45 #[.agg #[.int .i64 l.k.R, .int .i64 l.k.C, .slice l.k.O l.k.n l.k.c]] z fun e w' => ∃ u c, e = .returned (.agg #[.int .i64 l.k.R, .int .i64 l.k.C, .slice u l.k.n c]) ∧ Own w' (w.heap.size + 2) 84 1 (.slice u l.k.n c) l.k.n (fun i => .int .i8 (l.k.f i)) ∧ Cl w w' l l' ∧ Below z.heap.size z w') := fun z l' hz => (copyMZ (h.k.fresh hz.low) hB.k).mono fun e w' ⟨u, c, h1, h2, h3⟩ => ⟨u, c, h1, h2.weaken hz.big, hz.fresh h3, h3⟩
  have Hm2 : Hid (∀ (z : World) (l' : LyD), Cl w z l l' → Calls Try.prog 45 #[.agg #[.int .i64 l.v.R, .int .i64 l.v.C, .slice l.v.O l.v.n l.v.c]] z fun e w' => ∃ u c, e = .returned (.agg #[.int .i64 l.v.R, .int .i64 l.v.C, .slice u l.v.n c]) ∧ Own w' (w.heap.size + 2) 84 1 (.slice u l.v.n c) l.v.n (fun i => .int .i8 (l.v.f i)) ∧ Cl w w' l l' ∧ Below z.heap.size z w') := fun z l' hz => (copyMZ (h.v.fresh hz.low) hB.v).mono fun e w' ⟨u, c, h1, h2, h3⟩ => ⟨u, c, h1, h2.weaken hz.big, hz.fresh h3, h3⟩
  have Hm3 : Hid (∀ (z : World) (l' : LyD), Cl w z l l' → Calls Try.prog 45 #[.agg #[.int .i64 l.o.R, .int .i64 l.o.C, .slice l.o.O l.o.n l.o.c]] z fun e w' => ∃ u c, e = .returned (.agg #[.int .i64 l.o.R, .int .i64 l.o.C, .slice u l.o.n c]) ∧ Own w' (w.heap.size + 2) 84 1 (.slice u l.o.n c) l.o.n (fun i => .int .i8 (l.o.f i)) ∧ Cl w w' l l' ∧ Below z.heap.size z w') := fun z l' hz => (copyMZ (h.o.fresh hz.low) hB.o).mono fun e w' ⟨u, c, h1, h2, h3⟩ => ⟨u, c, h1, h2.weaken hz.big, hz.fresh h3, h3⟩
  have Hm4 : Hid (∀ (z : World) (l' : LyD), Cl w z l l' → Calls Try.prog 45 #[.agg #[.int .i64 l.g.R, .int .i64 l.g.C, .slice l.g.O l.g.n l.g.c]] z fun e w' => ∃ u c, e = .returned (.agg #[.int .i64 l.g.R, .int .i64 l.g.C, .slice u l.g.n c]) ∧ Own w' (w.heap.size + 2) 84 1 (.slice u l.g.n c) l.g.n (fun i => .int .i8 (l.g.f i)) ∧ Cl w w' l l' ∧ Below z.heap.size z w') := fun z l' hz => (copyMZ (h.g.fresh hz.low) hB.g).mono fun e w' ⟨u, c, h1, h2, h3⟩ => ⟨u, c, h1, h2.weaken hz.big, hz.fresh h3, h3⟩
  have Hm5 : Hid (∀ (z : World) (l' : LyD), Cl w z l l' → Calls Try.prog 45 #[.agg #[.int .i64 l.u.R, .int .i64 l.u.C, .slice l.u.O l.u.n l.u.c]] z fun e w' => ∃ u c, e = .returned (.agg #[.int .i64 l.u.R, .int .i64 l.u.C, .slice u l.u.n c]) ∧ Own w' (w.heap.size + 2) 84 1 (.slice u l.u.n c) l.u.n (fun i => .int .i8 (l.u.f i)) ∧ Cl w w' l l' ∧ Below z.heap.size z w') := fun z l' hz => (copyMZ (h.u.fresh hz.low) hB.u).mono fun e w' ⟨u, c, h1, h2, h3⟩ => ⟨u, c, h1, h2.weaken hz.big, hz.fresh h3, h3⟩
  have Hm6 : Hid (∀ (z : World) (l' : LyD), Cl w z l l' → Calls Try.prog 45 #[.agg #[.int .i64 l.d.R, .int .i64 l.d.C, .slice l.d.O l.d.n l.d.c]] z fun e w' => ∃ u c, e = .returned (.agg #[.int .i64 l.d.R, .int .i64 l.d.C, .slice u l.d.n c]) ∧ Own w' (w.heap.size + 2) 84 1 (.slice u l.d.n c) l.d.n (fun i => .int .i8 (l.d.f i)) ∧ Cl w w' l l' ∧ Below z.heap.size z w') := fun z l' hz => (copyMZ (h.d.fresh hz.low) hB.d).mono fun e w' ⟨u, c, h1, h2, h3⟩ => ⟨u, c, h1, h2.weaken hz.big, hz.fresh h3, h3⟩
  clear h hB b1 b2
  go_enter Try.func47, Try.ntmps47
  go_upto_region 1 with fail
  generalize hwb : (w.alloc (.cells #[.slice l.n1.O l.n1.n l.n1.c, .slice l.n2.O l.n2.n l.n2.c, .int .i64 l.q.R, .int .i64 l.q.C, .slice l.q.O l.q.n l.q.c, .int .i64 l.k.R, .int .i64 l.k.C, .slice l.k.O l.k.n l.k.c, .int .i64 l.v.R, .int .i64 l.v.C, .slice l.v.O l.v.n l.v.c, .int .i64 l.o.R, .int .i64 l.o.C, .slice l.o.O l.o.n l.o.c, .int .i64 l.g.R, .int .i64 l.g.C, .slice l.g.O l.g.n l.g.c, .int .i64 l.u.R, .int .i64 l.u.C, .slice l.u.O l.u.n l.u.c, .int .i64 l.d.R, .int .i64 l.d.C, .slice l.d.O l.d.n l.d.c, .int .i64 (l.sh 0), .int .i64 (l.sh 1), .int .i64 (l.sh 2), .int .i64 (l.sh 3), .int .i64 (l.sh 4), .int .i64 (l.sh 5), .int .i64 (l.sh 6)] 67)).alloc (.cells #[.slice none 0 0, .slice none 0 0, .int .i64 0, .int .i64 0, .slice none 0 0, .int .i64 0, .int .i64 0, .slice none 0 0, .int .i64 0, .int .i64 0, .slice none 0 0, .int .i64 0, .int .i64 0, .slice none 0 0, .int .i64 0, .int .i64 0, .slice none 0 0, .int .i64 0, .int .i64 0, .slice none 0 0, .int .i64 0, .int .i64 0, .slice none 0 0, .int .i64 0, .int .i64 0, .int .i64 0, .int .i64 0, .int .i64 0, .int .i64 0, .int .i64 0] 67) = wb at *
  clear hwb
  obtain ⟨T, hT⟩ : ∃ T, T = lyA l := ⟨_, rfl⟩
  rw [← hT] at HK0'
  have RG : Hid (wb.rangeAt w.heap.size 0 T.toList) := by rw [hT]; exact RG'
  have SL : Hid ((Try.prog.info? 67).map (·.size) = some T.toList.length) := by rw [hT]; exact sizeL
  have S30 : Hid ((Try.prog.info? 67).map (·.size) = some T.size) := by rw [hT]; exact sizeL
  have H1 : Hid (T.all (·.oneCell') = true) := by rw [hT]; exact lyA_one l
  have HOZ : Hid ((#[.slice none 0 0, .slice none 0 0, .int .i64 0, .int .i64 0, .slice none 0 0, .int .i64 0, .int .i64 0, .slice none 0 0, .int .i64 0, .int .i64 0, .slice none 0 0, .int .i64 0, .int .i64 0, .slice none 0 0, .int .i64 0, .int .i64 0, .slice none 0 0, .int .i64 0, .int .i64 0, .slice none 0 0, .int .i64 0, .int .i64 0, .slice none 0 0, .int .i64 0, .int .i64 0, .int .i64 0, .int .i64 0, .int .i64 0, .int .i64 0, .int .i64 0] : Array Value).size = T.size) := by rw [hT]; rfl
  have HZH : Hid ((wb.alloc (.cells #[.slice none 0 0, .slice none 0 0, .int .i64 0, .int .i64 0, .slice none 0 0, .int .i64 0, .int .i64 0, .slice none 0 0, .int .i64 0, .int .i64 0, .slice none 0 0, .int .i64 0, .int .i64 0, .slice none 0 0, .int .i64 0, .int .i64 0, .slice none 0 0, .int .i64 0, .int .i64 0, .slice none 0 0, .int .i64 0, .int .i64 0, .slice none 0 0, .int .i64 0, .int .i64 0, .int .i64 0, .int .i64 0, .int .i64 0, .int .i64 0, .int .i64 0] 67)).heap[w.heap.size + 2]? = some (.cells #[.slice none 0 0, .slice none 0 0, .int .i64 0, .int .i64 0, .slice none 0 0, .int .i64 0, .int .i64 0, .slice none 0 0, .int .i64 0, .int .i64 0, .slice none 0 0, .int .i64 0, .int .i64 0, .slice none 0 0, .int .i64 0, .int .i64 0, .slice none 0 0, .int .i64 0, .int .i64 0, .slice none 0 0, .int .i64 0, .int .i64 0, .slice none 0 0, .int .i64 0, .int .i64 0, .int .i64 0, .int .i64 0, .int .i64 0, .int .i64 0, .int .i64 0] 67 (0, 0))) := by show _ = _; rw [← hsz]; exact heap_new _ _
  have HEQ : Hid ((wb.alloc (.cells #[.slice none 0 0, .slice none 0 0, .int .i64 0, .int .i64 0, .slice none 0 0, .int .i64 0, .int .i64 0, .slice none 0 0, .int .i64 0, .int .i64 0, .slice none 0 0, .int .i64 0, .int .i64 0, .slice none 0 0, .int .i64 0, .int .i64 0, .slice none 0 0, .int .i64 0, .int .i64 0, .slice none 0 0, .int .i64 0, .int .i64 0, .slice none 0 0, .int .i64 0, .int .i64 0, .int .i64 0, .int .i64 0, .int .i64 0, .int .i64 0, .int .i64 0] 67)).setRow (w.heap.size + 2) T = wb.alloc (.cells T 67)) := by show _ = _; rw [← hsz]; exact World.setRow_alloc_new _ _ _ _
  have HK0 := hidd HK0'
  clear HK0' RG' hT
  go_upto_region 2 with (first | refine wpList_load_mid rfl 67 _ rfl w.heap.size 0 rfl T.toList _ RG.out Try.underlying67 rfl SL.out ?_ | refine wpList_store_row rfl 67 _ _ rfl (w.heap.size + 2) T rfl rfl 67 _ HZH.out S30.out HOZ.out H1.out ?_)
  rw [HEQ.out]
  clear HEQ HZH HOZ H1 S30 SL RG
  generalize wb.alloc (.cells T 67) = wa at *
  clear hsz
  have t0 : wa.cell? ⟨w.heap.size, 0, none⟩ = some (.slice l.n1.O l.n1.n l.n1.c) := HK0.out.box.cell (i := 0) (by decide)
  go_wp2_with fail
  clear t0
  refine (Hn1.out _ _ HK0.out).mono ?_
  rintro e w1 ⟨u1, c1, rfl, o1, g1, k1⟩
  clear Hn1
  have O1 := hidd o1
  have G1 := hidd g1
  clear o1 k1 g1 HK0
  as_aux_lemma =>
    have s0 : w1.cell? ⟨w.heap.size + 2, 0, none⟩ = some (.slice l.n1.O l.n1.n l.n1.c) := G1.out.loc.cell (i := 0) (by decide)
    have fz : ∀ j, w1.frozen? ⟨w.heap.size + 2, j, none⟩ = false := G1.out.loc.frozen
    have t1 : w1.cell? ⟨w.heap.size, 1, none⟩ = some (.slice l.n2.O l.n2.n l.n2.c) := G1.out.box.cell (i := 1) (by decide)
    go_wp2_with fail
    clear s0 fz t1
    replace O1 := hidd (Own.set (j := 0) (x := .slice u1 l.n1.n c1) O1.out (Own.loc G1.out O1.out))
    refine (Hn2.out _ _ (Cl.n1 G1.out { l.n1 with O := u1, c := c1 })).mono ?_
    rintro e w2 ⟨u2, c2, rfl, o2, g2, k2⟩
    clear Hn2
    replace O1 := hidd ((O1.out).kept k2)
    have O2 := hidd o2
    have G2 := hidd g2
    clear o2 k2 g2 G1
    as_aux_lemma =>
      have s1 : w2.cell? ⟨w.heap.size + 2, 1, none⟩ = some (.slice l.n2.O l.n2.n l.n2.c) := G2.out.loc.cell (i := 1) (by decide)
      have fz : ∀ j, w2.frozen? ⟨w.heap.size + 2, j, none⟩ = false := G2.out.loc.frozen
      have t2 : w2.cell? ⟨w.heap.size, 2, none⟩ = some (.int .i64 l.q.R) := G2.out.box.cell (i := 2) (by decide)
      have t3 : w2.cell? ⟨w.heap.size, 3, none⟩ = some (.int .i64 l.q.C) := G2.out.box.cell (i := 3) (by decide)
      have t4 : w2.cell? ⟨w.heap.size, 4, none⟩ = some (.slice l.q.O l.q.n l.q.c) := G2.out.box.cell (i := 4) (by decide)
      go_wp2_with fail
      clear s1 fz t2 t3 t4
      replace O1 := hidd (Own.set (j := 1) (x := .slice u2 l.n2.n c2) O1.out (Own.loc G2.out O1.out))
      replace O2 := hidd (Own.set (j := 1) (x := .slice u2 l.n2.n c2) O2.out (Own.loc G2.out O2.out))
      refine (Hm0.out _ _ (Cl.n2 G2.out { l.n2 with O := u2, c := c2 })).mono ?_
      rintro e w3 ⟨u3, c3, rfl, o3, g3, k3⟩
      clear Hm0
      replace O1 := hidd ((O1.out).kept k3)
      replace O2 := hidd ((O2.out).kept k3)
      have O3 := hidd o3
      have G3 := hidd g3
      clear o3 k3 g3 G2
      as_aux_lemma =>
        have s2 : w3.cell? ⟨w.heap.size + 2, 2, none⟩ = some (.int .i64 l.q.R) := G3.out.loc.cell (i := 2) (by decide)
        have s3 : w3.cell? ⟨w.heap.size + 2, 3, none⟩ = some (.int .i64 l.q.C) := G3.out.loc.cell (i := 3) (by decide)
        have s4 : w3.cell? ⟨w.heap.size + 2, 4, none⟩ = some (.slice l.q.O l.q.n l.q.c) := G3.out.loc.cell (i := 4) (by decide)
        have fz : ∀ j, w3.frozen? ⟨w.heap.size + 2, j, none⟩ = false := G3.out.loc.frozen
        have t5 : w3.cell? ⟨w.heap.size, 5, none⟩ = some (.int .i64 l.k.R) := G3.out.box.cell (i := 5) (by decide)
        have t6 : w3.cell? ⟨w.heap.size, 6, none⟩ = some (.int .i64 l.k.C) := G3.out.box.cell (i := 6) (by decide)
        have t7 : w3.cell? ⟨w.heap.size, 7, none⟩ = some (.slice l.k.O l.k.n l.k.c) := G3.out.box.cell (i := 7) (by decide)
        go_wp2_with fail
        clear s2 s3 s4 fz t5 t6 t7
        replace O1 := hidd (Own.set (j := 4) (x := .slice u3 l.q.n c3) (Own.set (j := 3) (x := .int .i64 l.q.C) (Own.set (j := 2) (x := .int .i64 l.q.R) O1.out (Own.loc G3.out O1.out)) (Own.loc G3.out O1.out)) (Own.loc G3.out O1.out))
        replace O2 := hidd (Own.set (j := 4) (x := .slice u3 l.q.n c3) (Own.set (j := 3) (x := .int .i64 l.q.C) (Own.set (j := 2) (x := .int .i64 l.q.R) O2.out (Own.loc G3.out O2.out)) (Own.loc G3.out O2.out)) (Own.loc G3.out O2.out))
        replace O3 := hidd (Own.set (j := 4) (x := .slice u3 l.q.n c3) (Own.set (j := 3) (x := .int .i64 l.q.C) (Own.set (j := 2) (x := .int .i64 l.q.R) O3.out (Own.loc G3.out O3.out)) (Own.loc G3.out O3.out)) (Own.loc G3.out O3.out))
        refine (Hm1.out _ _ (Cl.m0 G3.out { l.q with O := u3, c := c3 })).mono ?_
        rintro e w4 ⟨u4, c4, rfl, o4, g4, k4⟩
        clear Hm1
        replace O1 := hidd ((O1.out).kept k4)
        replace O2 := hidd ((O2.out).kept k4)
        replace O3 := hidd ((O3.out).kept k4)
        have O4 := hidd o4
        have G4 := hidd g4
        clear o4 k4 g4 G3
        as_aux_lemma =>
          have s5 : w4.cell? ⟨w.heap.size + 2, 5, none⟩ = some (.int .i64 l.k.R) := G4.out.loc.cell (i := 5) (by decide)
          have s6 : w4.cell? ⟨w.heap.size + 2, 6, none⟩ = some (.int .i64 l.k.C) := G4.out.loc.cell (i := 6) (by decide)
          have s7 : w4.cell? ⟨w.heap.size + 2, 7, none⟩ = some (.slice l.k.O l.k.n l.k.c) := G4.out.loc.cell (i := 7) (by decide)
          have fz : ∀ j, w4.frozen? ⟨w.heap.size + 2, j, none⟩ = false := G4.out.loc.frozen
          have t8 : w4.cell? ⟨w.heap.size, 8, none⟩ = some (.int .i64 l.v.R) := G4.out.box.cell (i := 8) (by decide)
          have t9 : w4.cell? ⟨w.heap.size, 9, none⟩ = some (.int .i64 l.v.C) := G4.out.box.cell (i := 9) (by decide)
          have t10 : w4.cell? ⟨w.heap.size, 10, none⟩ = some (.slice l.v.O l.v.n l.v.c) := G4.out.box.cell (i := 10) (by decide)
          go_wp2_with fail
          clear s5 s6 s7 fz t8 t9 t10
          replace O1 := hidd (Own.set (j := 7) (x := .slice u4 l.k.n c4) (Own.set (j := 6) (x := .int .i64 l.k.C) (Own.set (j := 5) (x := .int .i64 l.k.R) O1.out (Own.loc G4.out O1.out)) (Own.loc G4.out O1.out)) (Own.loc G4.out O1.out))
          replace O2 := hidd (Own.set (j := 7) (x := .slice u4 l.k.n c4) (Own.set (j := 6) (x := .int .i64 l.k.C) (Own.set (j := 5) (x := .int .i64 l.k.R) O2.out (Own.loc G4.out O2.out)) (Own.loc G4.out O2.out)) (Own.loc G4.out O2.out))
          replace O3 := hidd (Own.set (j := 7) (x := .slice u4 l.k.n c4) (Own.set (j := 6) (x := .int .i64 l.k.C) (Own.set (j := 5) (x := .int .i64 l.k.R) O3.out (Own.loc G4.out O3.out)) (Own.loc G4.out O3.out)) (Own.loc G4.out O3.out))
          replace O4 := hidd (Own.set (j := 7) (x := .slice u4 l.k.n c4) (Own.set (j := 6) (x := .int .i64 l.k.C) (Own.set (j := 5) (x := .int .i64 l.k.R) O4.out (Own.loc G4.out O4.out)) (Own.loc G4.out O4.out)) (Own.loc G4.out O4.out))
          refine (Hm2.out _ _ (Cl.m1 G4.out { l.k with O := u4, c := c4 })).mono ?_
          rintro e w5 ⟨u5, c5, rfl, o5, g5, k5⟩
          clear Hm2
          replace O1 := hidd ((O1.out).kept k5)
          replace O2 := hidd ((O2.out).kept k5)
          replace O3 := hidd ((O3.out).kept k5)
          replace O4 := hidd ((O4.out).kept k5)
          have O5 := hidd o5
          have G5 := hidd g5
          clear o5 k5 g5 G4
          as_aux_lemma =>
            have s8 : w5.cell? ⟨w.heap.size + 2, 8, none⟩ = some (.int .i64 l.v.R) := G5.out.loc.cell (i := 8) (by decide)
            have s9 : w5.cell? ⟨w.heap.size + 2, 9, none⟩ = some (.int .i64 l.v.C) := G5.out.loc.cell (i := 9) (by decide)
            have s10 : w5.cell? ⟨w.heap.size + 2, 10, none⟩ = some (.slice l.v.O l.v.n l.v.c) := G5.out.loc.cell (i := 10) (by decide)
            have fz : ∀ j, w5.frozen? ⟨w.heap.size + 2, j, none⟩ = false := G5.out.loc.frozen
            have t11 : w5.cell? ⟨w.heap.size, 11, none⟩ = some (.int .i64 l.o.R) := G5.out.box.cell (i := 11) (by decide)
            have t12 : w5.cell? ⟨w.heap.size, 12, none⟩ = some (.int .i64 l.o.C) := G5.out.box.cell (i := 12) (by decide)
            have t13 : w5.cell? ⟨w.heap.size, 13, none⟩ = some (.slice l.o.O l.o.n l.o.c) := G5.out.box.cell (i := 13) (by decide)
            go_wp2_with fail
            clear s8 s9 s10 fz t11 t12 t13
            replace O1 := hidd (Own.set (j := 10) (x := .slice u5 l.v.n c5) (Own.set (j := 9) (x := .int .i64 l.v.C) (Own.set (j := 8) (x := .int .i64 l.v.R) O1.out (Own.loc G5.out O1.out)) (Own.loc G5.out O1.out)) (Own.loc G5.out O1.out))
            replace O2 := hidd (Own.set (j := 10) (x := .slice u5 l.v.n c5) (Own.set (j := 9) (x := .int .i64 l.v.C) (Own.set (j := 8) (x := .int .i64 l.v.R) O2.out (Own.loc G5.out O2.out)) (Own.loc G5.out O2.out)) (Own.loc G5.out O2.out))
            replace O3 := hidd (Own.set (j := 10) (x := .slice u5 l.v.n c5) (Own.set (j := 9) (x := .int .i64 l.v.C) (Own.set (j := 8) (x := .int .i64 l.v.R) O3.out (Own.loc G5.out O3.out)) (Own.loc G5.out O3.out)) (Own.loc G5.out O3.out))
            replace O4 := hidd (Own.set (j := 10) (x := .slice u5 l.v.n c5) (Own.set (j := 9) (x := .int .i64 l.v.C) (Own.set (j := 8) (x := .int .i64 l.v.R) O4.out (Own.loc G5.out O4.out)) (Own.loc G5.out O4.out)) (Own.loc G5.out O4.out))
            replace O5 := hidd (Own.set (j := 10) (x := .slice u5 l.v.n c5) (Own.set (j := 9) (x := .int .i64 l.v.C) (Own.set (j := 8) (x := .int .i64 l.v.R) O5.out (Own.loc G5.out O5.out)) (Own.loc G5.out O5.out)) (Own.loc G5.out O5.out))
            refine (Hm3.out _ _ (Cl.m2 G5.out { l.v with O := u5, c := c5 })).mono ?_
            rintro e w6 ⟨u6, c6, rfl, o6, g6, k6⟩
            clear Hm3
            replace O1 := hidd ((O1.out).kept k6)
            replace O2 := hidd ((O2.out).kept k6)
            replace O3 := hidd ((O3.out).kept k6)
            replace O4 := hidd ((O4.out).kept k6)
            replace O5 := hidd ((O5.out).kept k6)
            have O6 := hidd o6
            have G6 := hidd g6
            clear o6 k6 g6 G5
            as_aux_lemma =>
              have s11 : w6.cell? ⟨w.heap.size + 2, 11, none⟩ = some (.int .i64 l.o.R) := G6.out.loc.cell (i := 11) (by decide)
              have s12 : w6.cell? ⟨w.heap.size + 2, 12, none⟩ = some (.int .i64 l.o.C) := G6.out.loc.cell (i := 12) (by decide)
              have s13 : w6.cell? ⟨w.heap.size + 2, 13, none⟩ = some (.slice l.o.O l.o.n l.o.c) := G6.out.loc.cell (i := 13) (by decide)
              have fz : ∀ j, w6.frozen? ⟨w.heap.size + 2, j, none⟩ = false := G6.out.loc.frozen
              have t14 : w6.cell? ⟨w.heap.size, 14, none⟩ = some (.int .i64 l.g.R) := G6.out.box.cell (i := 14) (by decide)
              have t15 : w6.cell? ⟨w.heap.size, 15, none⟩ = some (.int .i64 l.g.C) := G6.out.box.cell (i := 15) (by decide)
              have t16 : w6.cell? ⟨w.heap.size, 16, none⟩ = some (.slice l.g.O l.g.n l.g.c) := G6.out.box.cell (i := 16) (by decide)
              go_wp2_with fail
              clear s11 s12 s13 fz t14 t15 t16
              replace O1 := hidd (Own.set (j := 13) (x := .slice u6 l.o.n c6) (Own.set (j := 12) (x := .int .i64 l.o.C) (Own.set (j := 11) (x := .int .i64 l.o.R) O1.out (Own.loc G6.out O1.out)) (Own.loc G6.out O1.out)) (Own.loc G6.out O1.out))
              replace O2 := hidd (Own.set (j := 13) (x := .slice u6 l.o.n c6) (Own.set (j := 12) (x := .int .i64 l.o.C) (Own.set (j := 11) (x := .int .i64 l.o.R) O2.out (Own.loc G6.out O2.out)) (Own.loc G6.out O2.out)) (Own.loc G6.out O2.out))
              replace O3 := hidd (Own.set (j := 13) (x := .slice u6 l.o.n c6) (Own.set (j := 12) (x := .int .i64 l.o.C) (Own.set (j := 11) (x := .int .i64 l.o.R) O3.out (Own.loc G6.out O3.out)) (Own.loc G6.out O3.out)) (Own.loc G6.out O3.out))
              replace O4 := hidd (Own.set (j := 13) (x := .slice u6 l.o.n c6) (Own.set (j := 12) (x := .int .i64 l.o.C) (Own.set (j := 11) (x := .int .i64 l.o.R) O4.out (Own.loc G6.out O4.out)) (Own.loc G6.out O4.out)) (Own.loc G6.out O4.out))
              replace O5 := hidd (Own.set (j := 13) (x := .slice u6 l.o.n c6) (Own.set (j := 12) (x := .int .i64 l.o.C) (Own.set (j := 11) (x := .int .i64 l.o.R) O5.out (Own.loc G6.out O5.out)) (Own.loc G6.out O5.out)) (Own.loc G6.out O5.out))
              replace O6 := hidd (Own.set (j := 13) (x := .slice u6 l.o.n c6) (Own.set (j := 12) (x := .int .i64 l.o.C) (Own.set (j := 11) (x := .int .i64 l.o.R) O6.out (Own.loc G6.out O6.out)) (Own.loc G6.out O6.out)) (Own.loc G6.out O6.out))
              refine (Hm4.out _ _ (Cl.m3 G6.out { l.o with O := u6, c := c6 })).mono ?_
              rintro e w7 ⟨u7, c7, rfl, o7, g7, k7⟩
              clear Hm4
              replace O1 := hidd ((O1.out).kept k7)
              replace O2 := hidd ((O2.out).kept k7)
              replace O3 := hidd ((O3.out).kept k7)
              replace O4 := hidd ((O4.out).kept k7)
              replace O5 := hidd ((O5.out).kept k7)
              replace O6 := hidd ((O6.out).kept k7)
              have O7 := hidd o7
              have G7 := hidd g7
              clear o7 k7 g7 G6
              as_aux_lemma =>
                have s14 : w7.cell? ⟨w.heap.size + 2, 14, none⟩ = some (.int .i64 l.g.R) := G7.out.loc.cell (i := 14) (by decide)
                have s15 : w7.cell? ⟨w.heap.size + 2, 15, none⟩ = some (.int .i64 l.g.C) := G7.out.loc.cell (i := 15) (by decide)
                have s16 : w7.cell? ⟨w.heap.size + 2, 16, none⟩ = some (.slice l.g.O l.g.n l.g.c) := G7.out.loc.cell (i := 16) (by decide)
                have fz : ∀ j, w7.frozen? ⟨w.heap.size + 2, j, none⟩ = false := G7.out.loc.frozen
                have t17 : w7.cell? ⟨w.heap.size, 17, none⟩ = some (.int .i64 l.u.R) := G7.out.box.cell (i := 17) (by decide)
                have t18 : w7.cell? ⟨w.heap.size, 18, none⟩ = some (.int .i64 l.u.C) := G7.out.box.cell (i := 18) (by decide)
                have t19 : w7.cell? ⟨w.heap.size, 19, none⟩ = some (.slice l.u.O l.u.n l.u.c) := G7.out.box.cell (i := 19) (by decide)
                go_wp2_with fail
                clear s14 s15 s16 fz t17 t18 t19
                replace O1 := hidd (Own.set (j := 16) (x := .slice u7 l.g.n c7) (Own.set (j := 15) (x := .int .i64 l.g.C) (Own.set (j := 14) (x := .int .i64 l.g.R) O1.out (Own.loc G7.out O1.out)) (Own.loc G7.out O1.out)) (Own.loc G7.out O1.out))
                replace O2 := hidd (Own.set (j := 16) (x := .slice u7 l.g.n c7) (Own.set (j := 15) (x := .int .i64 l.g.C) (Own.set (j := 14) (x := .int .i64 l.g.R) O2.out (Own.loc G7.out O2.out)) (Own.loc G7.out O2.out)) (Own.loc G7.out O2.out))
                replace O3 := hidd (Own.set (j := 16) (x := .slice u7 l.g.n c7) (Own.set (j := 15) (x := .int .i64 l.g.C) (Own.set (j := 14) (x := .int .i64 l.g.R) O3.out (Own.loc G7.out O3.out)) (Own.loc G7.out O3.out)) (Own.loc G7.out O3.out))
                replace O4 := hidd (Own.set (j := 16) (x := .slice u7 l.g.n c7) (Own.set (j := 15) (x := .int .i64 l.g.C) (Own.set (j := 14) (x := .int .i64 l.g.R) O4.out (Own.loc G7.out O4.out)) (Own.loc G7.out O4.out)) (Own.loc G7.out O4.out))
                replace O5 := hidd (Own.set (j := 16) (x := .slice u7 l.g.n c7) (Own.set (j := 15) (x := .int .i64 l.g.C) (Own.set (j := 14) (x := .int .i64 l.g.R) O5.out (Own.loc G7.out O5.out)) (Own.loc G7.out O5.out)) (Own.loc G7.out O5.out))
                replace O6 := hidd (Own.set (j := 16) (x := .slice u7 l.g.n c7) (Own.set (j := 15) (x := .int .i64 l.g.C) (Own.set (j := 14) (x := .int .i64 l.g.R) O6.out (Own.loc G7.out O6.out)) (Own.loc G7.out O6.out)) (Own.loc G7.out O6.out))
                replace O7 := hidd (Own.set (j := 16) (x := .slice u7 l.g.n c7) (Own.set (j := 15) (x := .int .i64 l.g.C) (Own.set (j := 14) (x := .int .i64 l.g.R) O7.out (Own.loc G7.out O7.out)) (Own.loc G7.out O7.out)) (Own.loc G7.out O7.out))
                refine (Hm5.out _ _ (Cl.m4 G7.out { l.g with O := u7, c := c7 })).mono ?_
                rintro e w8 ⟨u8, c8, rfl, o8, g8, k8⟩
                clear Hm5
                replace O1 := hidd ((O1.out).kept k8)
                replace O2 := hidd ((O2.out).kept k8)
                replace O3 := hidd ((O3.out).kept k8)
                replace O4 := hidd ((O4.out).kept k8)
                replace O5 := hidd ((O5.out).kept k8)
                replace O6 := hidd ((O6.out).kept k8)
                replace O7 := hidd ((O7.out).kept k8)
                have O8 := hidd o8
                have G8 := hidd g8
                clear o8 k8 g8 G7
                as_aux_lemma =>
                  have s17 : w8.cell? ⟨w.heap.size + 2, 17, none⟩ = some (.int .i64 l.u.R) := G8.out.loc.cell (i := 17) (by decide)
                  have s18 : w8.cell? ⟨w.heap.size + 2, 18, none⟩ = some (.int .i64 l.u.C) := G8.out.loc.cell (i := 18) (by decide)
                  have s19 : w8.cell? ⟨w.heap.size + 2, 19, none⟩ = some (.slice l.u.O l.u.n l.u.c) := G8.out.loc.cell (i := 19) (by decide)
                  have fz : ∀ j, w8.frozen? ⟨w.heap.size + 2, j, none⟩ = false := G8.out.loc.frozen
                  have t20 : w8.cell? ⟨w.heap.size, 20, none⟩ = some (.int .i64 l.d.R) := G8.out.box.cell (i := 20) (by decide)
                  have t21 : w8.cell? ⟨w.heap.size, 21, none⟩ = some (.int .i64 l.d.C) := G8.out.box.cell (i := 21) (by decide)
                  have t22 : w8.cell? ⟨w.heap.size, 22, none⟩ = some (.slice l.d.O l.d.n l.d.c) := G8.out.box.cell (i := 22) (by decide)
                  go_wp2_with fail
                  clear s17 s18 s19 fz t20 t21 t22
                  replace O1 := hidd (Own.set (j := 19) (x := .slice u8 l.u.n c8) (Own.set (j := 18) (x := .int .i64 l.u.C) (Own.set (j := 17) (x := .int .i64 l.u.R) O1.out (Own.loc G8.out O1.out)) (Own.loc G8.out O1.out)) (Own.loc G8.out O1.out))
                  replace O2 := hidd (Own.set (j := 19) (x := .slice u8 l.u.n c8) (Own.set (j := 18) (x := .int .i64 l.u.C) (Own.set (j := 17) (x := .int .i64 l.u.R) O2.out (Own.loc G8.out O2.out)) (Own.loc G8.out O2.out)) (Own.loc G8.out O2.out))
                  replace O3 := hidd (Own.set (j := 19) (x := .slice u8 l.u.n c8) (Own.set (j := 18) (x := .int .i64 l.u.C) (Own.set (j := 17) (x := .int .i64 l.u.R) O3.out (Own.loc G8.out O3.out)) (Own.loc G8.out O3.out)) (Own.loc G8.out O3.out))
                  replace O4 := hidd (Own.set (j := 19) (x := .slice u8 l.u.n c8) (Own.set (j := 18) (x := .int .i64 l.u.C) (Own.set (j := 17) (x := .int .i64 l.u.R) O4.out (Own.loc G8.out O4.out)) (Own.loc G8.out O4.out)) (Own.loc G8.out O4.out))
                  replace O5 := hidd (Own.set (j := 19) (x := .slice u8 l.u.n c8) (Own.set (j := 18) (x := .int .i64 l.u.C) (Own.set (j := 17) (x := .int .i64 l.u.R) O5.out (Own.loc G8.out O5.out)) (Own.loc G8.out O5.out)) (Own.loc G8.out O5.out))
                  replace O6 := hidd (Own.set (j := 19) (x := .slice u8 l.u.n c8) (Own.set (j := 18) (x := .int .i64 l.u.C) (Own.set (j := 17) (x := .int .i64 l.u.R) O6.out (Own.loc G8.out O6.out)) (Own.loc G8.out O6.out)) (Own.loc G8.out O6.out))
                  replace O7 := hidd (Own.set (j := 19) (x := .slice u8 l.u.n c8) (Own.set (j := 18) (x := .int .i64 l.u.C) (Own.set (j := 17) (x := .int .i64 l.u.R) O7.out (Own.loc G8.out O7.out)) (Own.loc G8.out O7.out)) (Own.loc G8.out O7.out))
                  replace O8 := hidd (Own.set (j := 19) (x := .slice u8 l.u.n c8) (Own.set (j := 18) (x := .int .i64 l.u.C) (Own.set (j := 17) (x := .int .i64 l.u.R) O8.out (Own.loc G8.out O8.out)) (Own.loc G8.out O8.out)) (Own.loc G8.out O8.out))
                  refine (Hm6.out _ _ (Cl.m5 G8.out { l.u with O := u8, c := c8 })).mono ?_
                  rintro e w9 ⟨u9, c9, rfl, o9, g9, k9⟩
                  clear Hm6
                  replace O1 := hidd ((O1.out).kept k9)
                  replace O2 := hidd ((O2.out).kept k9)
                  replace O3 := hidd ((O3.out).kept k9)
                  replace O4 := hidd ((O4.out).kept k9)
                  replace O5 := hidd ((O5.out).kept k9)
                  replace O6 := hidd ((O6.out).kept k9)
                  replace O7 := hidd ((O7.out).kept k9)
                  replace O8 := hidd ((O8.out).kept k9)
                  have O9 := hidd o9
                  have G9 := hidd g9
                  clear o9 k9 g9 G8
                  as_aux_lemma =>
                    have s20 : w9.cell? ⟨w.heap.size + 2, 20, none⟩ = some (.int .i64 l.d.R) := G9.out.loc.cell (i := 20) (by decide)
                    have s21 : w9.cell? ⟨w.heap.size + 2, 21, none⟩ = some (.int .i64 l.d.C) := G9.out.loc.cell (i := 21) (by decide)
                    have s22 : w9.cell? ⟨w.heap.size + 2, 22, none⟩ = some (.slice l.d.O l.d.n l.d.c) := G9.out.loc.cell (i := 22) (by decide)
                    have fz : ∀ j, w9.frozen? ⟨w.heap.size + 2, j, none⟩ = false := G9.out.loc.frozen
                    go_upto_region 11 with fail
                    clear s20 s21 s22 fz
                    replace O1 := hidd (Own.set (j := 22) (x := .slice u9 l.d.n c9) (Own.set (j := 21) (x := .int .i64 l.d.C) (Own.set (j := 20) (x := .int .i64 l.d.R) O1.out (Own.loc G9.out O1.out)) (Own.loc G9.out O1.out)) (Own.loc G9.out O1.out))
                    replace O2 := hidd (Own.set (j := 22) (x := .slice u9 l.d.n c9) (Own.set (j := 21) (x := .int .i64 l.d.C) (Own.set (j := 20) (x := .int .i64 l.d.R) O2.out (Own.loc G9.out O2.out)) (Own.loc G9.out O2.out)) (Own.loc G9.out O2.out))
                    replace O3 := hidd (Own.set (j := 22) (x := .slice u9 l.d.n c9) (Own.set (j := 21) (x := .int .i64 l.d.C) (Own.set (j := 20) (x := .int .i64 l.d.R) O3.out (Own.loc G9.out O3.out)) (Own.loc G9.out O3.out)) (Own.loc G9.out O3.out))
                    replace O4 := hidd (Own.set (j := 22) (x := .slice u9 l.d.n c9) (Own.set (j := 21) (x := .int .i64 l.d.C) (Own.set (j := 20) (x := .int .i64 l.d.R) O4.out (Own.loc G9.out O4.out)) (Own.loc G9.out O4.out)) (Own.loc G9.out O4.out))
                    replace O5 := hidd (Own.set (j := 22) (x := .slice u9 l.d.n c9) (Own.set (j := 21) (x := .int .i64 l.d.C) (Own.set (j := 20) (x := .int .i64 l.d.R) O5.out (Own.loc G9.out O5.out)) (Own.loc G9.out O5.out)) (Own.loc G9.out O5.out))
                    replace O6 := hidd (Own.set (j := 22) (x := .slice u9 l.d.n c9) (Own.set (j := 21) (x := .int .i64 l.d.C) (Own.set (j := 20) (x := .int .i64 l.d.R) O6.out (Own.loc G9.out O6.out)) (Own.loc G9.out O6.out)) (Own.loc G9.out O6.out))
                    replace O7 := hidd (Own.set (j := 22) (x := .slice u9 l.d.n c9) (Own.set (j := 21) (x := .int .i64 l.d.C) (Own.set (j := 20) (x := .int .i64 l.d.R) O7.out (Own.loc G9.out O7.out)) (Own.loc G9.out O7.out)) (Own.loc G9.out O7.out))
                    replace O8 := hidd (Own.set (j := 22) (x := .slice u9 l.d.n c9) (Own.set (j := 21) (x := .int .i64 l.d.C) (Own.set (j := 20) (x := .int .i64 l.d.R) O8.out (Own.loc G9.out O8.out)) (Own.loc G9.out O8.out)) (Own.loc G9.out O8.out))
                    replace O9 := hidd (Own.set (j := 22) (x := .slice u9 l.d.n c9) (Own.set (j := 21) (x := .int .i64 l.d.C) (Own.set (j := 20) (x := .int .i64 l.d.R) O9.out (Own.loc G9.out O9.out)) (Own.loc G9.out O9.out)) (Own.loc G9.out O9.out))
                    have HZ := hidd (Cl.m6 G9.out { l.d with O := u9, c := c9 })
                    clear G9
                    generalize hwz : (((w9.setCell ⟨w.heap.size + 2, 20, none⟩ (.int .i64 l.d.R)).setCell ⟨w.heap.size + 2, 21, none⟩ (.int .i64 l.d.C)).setCell ⟨w.heap.size + 2, 22, none⟩ (.slice u9 l.d.n c9)) = wz at *
                    clear hwz
                    have RG' := row_range HZ.out.loc rfl
                    obtain ⟨T9, hT⟩ : ∃ T9, T9 = lyA { n1 := { l.n1 with O := u1, c := c1 }, n2 := { l.n2 with O := u2, c := c2 }, q := { l.q with O := u3, c := c3 }, k := { l.k with O := u4, c := c4 }, v := { l.v with O := u5, c := c5 }, o := { l.o with O := u6, c := c6 }, g := { l.g with O := u7, c := c7 }, u := { l.u with O := u8, c := c8 }, d := { l.d with O := u9, c := c9 }, sh := l.sh } := ⟨_, rfl⟩
                    have RG : Hid (wz.rangeAt (w.heap.size + 2) 0 T9.toList) := by rw [hT]; exact RG'
                    have SL : Hid ((Try.prog.info? 67).map (·.size) = some T9.toList.length) := by rw [hT]; exact sizeL
                    have S30 : Hid ((Try.prog.info? 67).map (·.size) = some T9.size) := by rw [hT]; exact sizeL
                    have H1 : Hid (T9.all (·.oneCell') = true) := by rw [hT]; exact lyA_one _
                    obtain ⟨old, hold, hosz, _⟩ := HZ.out.res
                    have HOLD := hidd hold
                    have HOSZ : Hid (old.size = T9.size) := by rw [hT]; exact hosz
                    have HTT := hidd hT
                    clear hold hosz hT RG'
                    go_wp2_with (refine wpList_load_mid rfl 67 _ rfl (w.heap.size + 2) 0 rfl T9.toList _ RG.out Try.underlying67 rfl SL.out (wpList_store_row rfl 67 _ _ rfl (w.heap.size + 1) T9 rfl rfl 67 old HOLD.out S30.out HOSZ.out H1.out ?_))
                    have s : ∀ {n9 : Nat} {v9 : Value} {cs9 : Nat → Value} (cs : Array Value), Own wz (w.heap.size + 2) 84 1 v9 n9 cs9 → Own (wz.setRow (w.heap.size + 1) cs) (w.heap.size + 2) 84 1 v9 n9 cs9 := fun cs ho => ho.setRow (fun e => by have := (ho.lt _ e).1; omega)
                    refine bodyPost_ret (v := .agg T9) ?_ ?_ ?_
                    · exact results_cell_row Try.results47 _ _ (w.heap.size + 1) 67 _ (0, 0) _ rfl (setRow_heap _ _ _ _ _ _ HOLD.out) Try.underlying67 rfl S30.out
                    · rfl
                    · refine ⟨{ n1 := { l.n1 with O := u1, c := c1 }, n2 := { l.n2 with O := u2, c := c2 }, q := { l.q with O := u3, c := c3 }, k := { l.k with O := u4, c := c4 }, v := { l.v with O := u5, c := c5 }, o := { l.o with O := u6, c := c6 }, g := { l.g with O := u7, c := c7 }, u := { l.u with O := u8, c := c8 }, d := { l.d with O := u9, c := c9 }, sh := l.sh }, by rw [HTT.out], ⟨s _ O1.out, s _ O2.out, fun q hq => ?_⟩, ⟨⟨rfl, rfl⟩, ⟨rfl, rfl⟩, fun q hq => ?_, rfl⟩, below_setRow HZ.out.low (by omega) _⟩
                      · match q, hq with
                        | 0, _ => exact s _ O3.out
                        | 1, _ => exact s _ O4.out
                        | 2, _ => exact s _ O5.out
                        | 3, _ => exact s _ O6.out
                        | 4, _ => exact s _ O7.out
                        | 5, _ => exact s _ O8.out
                        | 6, _ => exact s _ O9.out
                      · match q, hq with
                        | 0, _ => exact ⟨rfl, rfl, rfl, rfl⟩
                        | 1, _ => exact ⟨rfl, rfl, rfl, rfl⟩
                        | 2, _ => exact ⟨rfl, rfl, rfl, rfl⟩
                        | 3, _ => exact ⟨rfl, rfl, rfl, rfl⟩
                        | 4, _ => exact ⟨rfl, rfl, rfl, rfl⟩
                        | 5, _ => exact ⟨rfl, rfl, rfl, rfl⟩
                        | 6, _ => exact ⟨rfl, rfl, rfl, rfl⟩
set_option maxRecDepth 100000 in
set_option maxHeartbeats 40000000 in
theorem roundLZ {w wr : World} {x y : WtD} {k : Nat} (HW : Hid (WtR w x)) (HB : Hid (WtZb x)) (hb : x.yn * 384 ≤ 140737488351232) (hlt : k < x.yn) (HL : Hid (Lw w wr x y k))
    (a : Act) (ha : LF3 w.heap.size k a) (R : Act → World → Prop) (HR : Hid (∀ a' w' y', LF3 w.heap.size (k + 1) a' → Lw w w' x y' (k + 1) → R a' w')) :
    loopL.wp Try.prog (Exit.then R (fun _ _ _ => False)) a wr := by
  conv => arg 2; whnf
  obtain ⟨u, e1, e2, e3, e4, rfl⟩ := ha
  rw [e1, e2, e3, e4]
  clear e1 e2 e3 e4
  have i0 : (0 : Int) ≤ (k : Int) := by omega
  have i1 : (k : Int) < (x.yn : Int) := by omega
  have HCL : Hid (∀ z, Lw w z x y k → z.cell? ⟨w.heap.size + 2, 12, none⟩ = some (.slice y.yO k y.yc) ∧ ∀ j, z.frozen? ⟨w.heap.size + 2, j, none⟩ = false) := fun z h => by
    have h1 : z.cell? ⟨w.heap.size + 2, 12, none⟩ = some (.slice y.yO y.yn y.yc) := h.ce.cw.loc.cell (i := 12) (by decide)
    rw [h.yn] at h1
    exact ⟨h1, h.ce.cw.loc.frozen⟩
  have b1 : wr.cell? ⟨w.heap.size, 12, none⟩ = some (.slice x.yO x.yn x.yc) := HL.out.ce.cw.box.cell (i := 12) (by decide)
  obtain ⟨yb, yf, ey, hyc⟩ := HW.out.yat (by omega)
  have RG' : wr.rangeAt yb (yf + k * 30) (lyL (x.ly k)) := fun j v h => fresh_cell HL.out.ce.cw.low ((hyc k hlt).range j v h)
  have htop := HW.out.ytop
  have hle := HW.out.yle
  unfold maxLen at htop
  rw [ey] at b1
  obtain ⟨T, hT⟩ : ∃ T, T = lyA (x.ly k) := ⟨_, rfl⟩
  have RG : Hid (wr.rangeAt yb (yf + k * 30) T.toList) := by rw [hT]; exact RG'
  have SL : Hid ((Try.prog.info? 67).map (·.size) = some T.toList.length) := by rw [hT]; exact sizeL
  have HC : Hid (Calls Try.prog 47 #[.agg T] wr fun e w' => ∃ l', e = .returned (.agg (lyA l')) ∧ LyO w w' l' ∧ SmL (x.ly k) l' ∧ Below wr.heap.size wr w') := by
    have hm := HB.out.ym k hlt
    rw [hT]
    exact (copyLZ ((HW.out.yr k hlt).fresh HL.out.ce.cw.low) hm (HB.out.y1 k hlt) (HB.out.y2 k hlt)).mono fun e w' ⟨l', h1, h2, h3, h4⟩ => ⟨l', h1, ⟨Own.weaken h2.1 (by have := HL.out.ce.cw.big; omega), Own.weaken h2.2.1 (by have := HL.out.ce.cw.big; omega), fun q hq => Own.weaken (h2.2.2 q hq) (by have := HL.out.ce.cw.big; omega)⟩, h3, h4⟩
  clear RG' hT hyc
  go_wp2_with (refine wpList_load_mid rfl 67 _ rfl yb (yf + k * 30) rfl T.toList _ RG.out Try.underlying67 rfl SL.out ?_)
  refine HC.out.mono ?_
  rintro e w1 ⟨l, rfl, hO, hS, f1⟩
  have HL1 := hidd (HL.out.fresh f1)
  have HO := hidd hO
  have HS := hidd hS
  clear hO hS HC HL f1 b1 RG SL
  obtain ⟨T9, hT9⟩ : ∃ T9, T9 = lyA l := ⟨_, rfl⟩
  rw [← hT9]
  have S30 : Hid ((Try.prog.info? 67).map (·.size) = some T9.size) := by rw [hT9]; exact sizeL
  have SL : Hid ((Try.prog.info? 67).map (·.size) = some T9.toList.length) := by rw [hT9]; exact sizeL
  have H1 : Hid (T9.all (·.oneCell') = true) := by rw [hT9]; exact lyA_one l
  have HOZ : Hid ((#[.slice none 0 0, .slice none 0 0, .int .i64 0, .int .i64 0, .slice none 0 0, .int .i64 0, .int .i64 0, .slice none 0 0, .int .i64 0, .int .i64 0, .slice none 0 0, .int .i64 0, .int .i64 0, .slice none 0 0, .int .i64 0, .int .i64 0, .slice none 0 0, .int .i64 0, .int .i64 0, .slice none 0 0, .int .i64 0, .int .i64 0, .slice none 0 0, .int .i64 0, .int .i64 0, .int .i64 0, .int .i64 0, .int .i64 0, .int .i64 0, .int .i64 0] : Array Value).size = T9.size) := by rw [hT9]; rfl
  have HZH : Hid ((w1.alloc (.cells #[.slice none 0 0, .slice none 0 0, .int .i64 0, .int .i64 0, .slice none 0 0, .int .i64 0, .int .i64 0, .slice none 0 0, .int .i64 0, .int .i64 0, .slice none 0 0, .int .i64 0, .int .i64 0, .slice none 0 0, .int .i64 0, .int .i64 0, .slice none 0 0, .int .i64 0, .int .i64 0, .slice none 0 0, .int .i64 0, .int .i64 0, .slice none 0 0, .int .i64 0, .int .i64 0, .int .i64 0, .int .i64 0, .int .i64 0, .int .i64 0, .int .i64 0] 67)).heap[w1.heap.size]? = some (.cells #[.slice none 0 0, .slice none 0 0, .int .i64 0, .int .i64 0, .slice none 0 0, .int .i64 0, .int .i64 0, .slice none 0 0, .int .i64 0, .int .i64 0, .slice none 0 0, .int .i64 0, .int .i64 0, .slice none 0 0, .int .i64 0, .int .i64 0, .slice none 0 0, .int .i64 0, .int .i64 0, .slice none 0 0, .int .i64 0, .int .i64 0, .slice none 0 0, .int .i64 0, .int .i64 0, .int .i64 0, .int .i64 0, .int .i64 0, .int .i64 0, .int .i64 0] 67 (0, 0))) := heap_new _ _
  have HEQ : Hid ((w1.alloc (.cells #[.slice none 0 0, .slice none 0 0, .int .i64 0, .int .i64 0, .slice none 0 0, .int .i64 0, .int .i64 0, .slice none 0 0, .int .i64 0, .int .i64 0, .slice none 0 0, .int .i64 0, .int .i64 0, .slice none 0 0, .int .i64 0, .int .i64 0, .slice none 0 0, .int .i64 0, .int .i64 0, .slice none 0 0, .int .i64 0, .int .i64 0, .slice none 0 0, .int .i64 0, .int .i64 0, .int .i64 0, .int .i64 0, .int .i64 0, .int .i64 0, .int .i64 0] 67)).setRow w1.heap.size T9 = w1.alloc (.cells T9 67)) := World.setRow_alloc_new _ _ _ _
  have RG : Hid ((w1.alloc (.cells T9 67)).rangeAt w1.heap.size 0 T9.toList) := by rw [hT9]; exact row_range (World.rowIs_list w1 (lyL l) 67) rfl
  have HT9 := hidd hT9
  clear hT9
  go_upto_region 9 with (refine wpList_store_row rfl 67 _ _ rfl w1.heap.size T9 rfl rfl 67 _ HZH.out S30.out HOZ.out H1.out ?_)
  rw [HEQ.out]
  have f2 := fresh_alloc w1 (.cells T9 67)
  have HL2 := hidd (HL1.out.fresh f2)
  have HO2 := hidd (HO.out.fresh f2)
  clear HL1 HO HEQ HZH HOZ H1 S30 f2
  generalize hw2 : w1.alloc (.cells T9 67) = w2 at *
  clear hw2
  obtain ⟨c12, fz⟩ := HCL.out w2 HL2.out
  have f3 := fresh_alloc w2 (.cells (lyA l) 67)
  have HL3 := hidd (HL2.out.fresh f3)
  have HO3 := hidd (HO2.out.fresh f3)
  have HOY : Hid (Own (w2.alloc (.cells (lyA l) 67)) (w.heap.size + 2) 67 30 (.slice y.yO k y.yc) k (lyc (updY y.ly k l))) := by
    have h1 := HL3.out.Y
    rw [HL3.out.yn] at h1
    exact h1.congr (fun j hj => lyc_prev y.ly k l j hj)
  have HNC : Hid (∀ j, j < 1 * 30 → (w2.alloc (.cells (lyA l) 67)).cell? ⟨w2.heap.size, j, none⟩ = some (lyc (updY y.ly k l) (k * 30 + j))) := fun j hj => by
    rw [lyc_last _ _ _ _ (by omega)]
    exact (World.rowIs_list w2 (lyL l) 67).cell (i := j) (by show j < 30; omega)
  have HN1 : Hid (∀ j, j < 1 * 30 → (lyc (updY y.ly k l) (k * 30 + j)).oneCell' = true) := fun j _ => lyc_one _ (k * 30 + j + 1) _ (by omega)
  have hbig : w.heap.size + 2 ≤ (w2.alloc (.cells (lyA l) 67)).heap.size := by have := HL3.out.ce.cw.big; omega
  have HBG := hidd hbig
  clear hbig f3
  go_wp2_with (first
    | refine wpList_load_mid rfl 67 _ rfl w1.heap.size 0 rfl T9.toList _ RG.out Try.underlying67 rfl SL.out ?_
    | refine wpList_buildLy rfl _ rfl l (by rw [← HT9.out]; rfl) ?_
    | (at_builtin; refine wpList_app (w2.alloc (.cells (lyA l) 67)) rfl _ _ 31 rfl (w.heap.size + 2) 67 zLy 30 384 Try.underlying31 infoLy rfl (by decide) _ k (lyc (updY y.ly k l)) rfl HOY.out w2.heap.size 1 1 rfl HNC.out HN1.out (by decide) (by unfold maxLen; omega) (by omega) HBG.out ?_))
  rintro v' w4 hown happ
  obtain ⟨p, uc, rfl, hrd⟩ := hown.rd
  have hc4 := HL3.out.ce.cw.app (by have h1 := HL3.out.Y; rw [HL3.out.yn] at h1; exact h1) (by decide) happ
  have fz4 : ∀ j, w4.frozen? ⟨w.heap.size + 2, j, none⟩ = false := hc4.loc.frozen
  have l4 : ∃ v, w4.cell? ⟨w.heap.size + 2, 12, none⟩ = some v := ⟨_, hc4.loc.cell (i := 12) (by decide)⟩
  obtain ⟨v4, l4⟩ := l4
  have HAP := hidd happ
  have HOW := hidd hown
  clear happ hown hrd hc4
  go_wp2
  exact HR.out _ _ _ (LF3.of rfl rfl rfl rfl (by first | rfl | simp)) (HL3.out.step HAP.out HOW.out HO3.out HS.out)
set_option maxRecDepth 100000 in
set_option maxHeartbeats 40000000 in
theorem roundNZ {w wr : World} {x y : WtD} {k : Nat} (HW : Hid (WtR w x)) (HB : Hid (WtZb x)) (hb : x.mn * 40 ≤ 140737488351232) (hlt : k < x.mn) (HL : Hid (Mw w wr x y k))
    (a : Act) (ha : LF4 w.heap.size k a) (R : Act → World → Prop) (HR : Hid (∀ a' w' y', LF4 w.heap.size (k + 1) a' → Mw w w' x y' (k + 1) → R a' w')) :
    loopN.wp Try.prog (Exit.then R (fun _ _ _ => False)) a wr := by
  conv => arg 2; whnf
  obtain ⟨u, e1, e2, e3, e6, rfl⟩ := ha
  rw [e1, e2, e3, e6]
  clear e1 e2 e3 e6
  have i0 : (0 : Int) ≤ (k : Int) := by omega
  have i1 : (k : Int) < (x.mn : Int) := by omega
  have HCL : Hid (∀ z, Mw w z x y k → z.cell? ⟨w.heap.size + 2, 17, none⟩ = some (.slice y.mO k y.mc) ∧ ∀ j, z.frozen? ⟨w.heap.size + 2, j, none⟩ = false) := fun z h => by
    have h1 : z.cell? ⟨w.heap.size + 2, 17, none⟩ = some (.slice y.mO y.mn y.mc) := h.lw.ce.cw.loc.cell (i := 17) (by decide)
    rw [h.mn] at h1
    exact ⟨h1, h.lw.ce.cw.loc.frozen⟩
  have b1 : wr.cell? ⟨w.heap.size, 17, none⟩ = some (.slice x.mO x.mn x.mc) := HL.out.lw.ce.cw.box.cell (i := 17) (by decide)
  obtain ⟨yb, yf, ey, hyc⟩ := HW.out.mat (by omega)
  obtain ⟨d0, d1, d2⟩ := hyc k hlt
  replace d0 := fresh_cell HL.out.lw.ce.cw.low d0
  replace d1 := fresh_cell HL.out.lw.ce.cw.low d1
  replace d2 := fresh_cell HL.out.lw.ce.cw.low d2
  have htop := HW.out.mtop
  have hle := HW.out.mle
  unfold maxLen at htop
  rw [ey] at b1
  have HC : Hid (Calls Try.prog 45 #[.agg #[.int .i64 (x.md k).R, .int .i64 (x.md k).C, .slice (x.md k).O (x.md k).n (x.md k).c]] wr fun e w' => ∃ p c, e = .returned (.agg #[.int .i64 (x.md k).R, .int .i64 (x.md k).C, .slice p (x.md k).n c]) ∧ (OwM w w' { x.md k with O := p, c := c } ∧ Off (.slice y.Q.O y.Q.n y.Q.c) (.slice p (x.md k).n c)) ∧ Below wr.heap.size wr w') := (copyMZ ((HW.out.mr k hlt).fresh HL.out.lw.ce.cw.low) (HB.out.m k hlt)).mono fun e w' ⟨p, c, h1, h2, h3⟩ => ⟨p, c, h1, ⟨h2.weaken (by have := HL.out.lw.ce.cw.big; omega), (off_late h2 HL.out.Q (Nat.le_refl _)).symm⟩, h3⟩
  clear hyc
  go_wp2_with fail
  refine HC.out.mono ?_
  rintro e w1 ⟨mp, mc, rfl, ⟨hO, hOff⟩, f1⟩
  have HL1 := hidd (HL.out.fresh f1)
  have HO := hidd hO
  have HOF := hidd hOff
  clear hOff
  clear hO HC HL f1 b1 d0 d1 d2
  obtain ⟨m, hm⟩ : ∃ m : MtD, m = { x.md k with O := mp, c := mc } := ⟨_, rfl⟩
  have hmR : (x.md k).R = m.R := by rw [hm]
  have hmC : (x.md k).C = m.C := by rw [hm]
  have hmS : Value.slice mp (x.md k).n mc = .slice m.O m.n m.c := by rw [hm]
  have HS : Hid (SmM (x.md k) m) := by rw [hm]; exact ⟨rfl, rfl, rfl, rfl⟩
  rw [← hm] at HO
  rw [hmS] at HOF
  rw [hmR, hmC, hmS]
  clear hm hmR hmC hmS
  go_upto_region 17 with fail
  have f2 := fresh_alloc w1 (.cells #[.int .i64 m.R, .int .i64 m.C, .slice m.O m.n m.c] 29)
  have HL2 := hidd (HL1.out.fresh f2)
  have HO2 : Hid (OwM w (w1.alloc (.cells #[.int .i64 m.R, .int .i64 m.C, .slice m.O m.n m.c] 29)) m) := Own.kept HO.out f2
  have g0 : (w1.alloc (.cells #[.int .i64 m.R, .int .i64 m.C, .slice m.O m.n m.c] 29)).cell? ⟨w1.heap.size, 0, none⟩ = some (.int .i64 m.R) := (World.rowIs_list w1 (mtL m) 29).cell (i := 0) (by show 0 < 3; decide)
  have g1 : (w1.alloc (.cells #[.int .i64 m.R, .int .i64 m.C, .slice m.O m.n m.c] 29)).cell? ⟨w1.heap.size, 1, none⟩ = some (.int .i64 m.C) := (World.rowIs_list w1 (mtL m) 29).cell (i := 1) (by show 1 < 3; decide)
  have g2 : (w1.alloc (.cells #[.int .i64 m.R, .int .i64 m.C, .slice m.O m.n m.c] 29)).cell? ⟨w1.heap.size, 2, none⟩ = some (.slice m.O m.n m.c) := (World.rowIs_list w1 (mtL m) 29).cell (i := 2) (by show 2 < 3; decide)
  clear HL1 HO f2
  generalize hw2 : w1.alloc (.cells #[.int .i64 m.R, .int .i64 m.C, .slice m.O m.n m.c] 29) = w2 at *
  clear hw2
  obtain ⟨c17, fz⟩ := HCL.out w2 HL2.out
  have f3 := fresh_alloc w2 (.cells #[.int .i64 m.R, .int .i64 m.C, .slice m.O m.n m.c] 29)
  have HL3 := hidd (HL2.out.fresh f3)
  have HO3 : Hid (OwM w (w2.alloc (.cells #[.int .i64 m.R, .int .i64 m.C, .slice m.O m.n m.c] 29)) m) := Own.kept HO2.out f3
  have HOY : Hid (Own (w2.alloc (.cells #[.int .i64 m.R, .int .i64 m.C, .slice m.O m.n m.c] 29)) (w.heap.size + 2) 29 3 (.slice y.mO k y.mc) k (mtc (updM y.md k m))) := by
    have h1 := HL3.out.M
    rw [HL3.out.mn] at h1
    exact h1.congr (fun j hj => mtc_prev y.md k m j hj)
  have HNC : Hid (∀ j, j < 1 * 3 → (w2.alloc (.cells #[.int .i64 m.R, .int .i64 m.C, .slice m.O m.n m.c] 29)).cell? ⟨w2.heap.size, j, none⟩ = some (mtc (updM y.md k m) (k * 3 + j))) := fun j hj => by
    rw [mtc_last _ _ _ _ (by omega)]
    exact (World.rowIs_list w2 (mtL m) 29).cell (i := j) (by show j < 3; omega)
  have HN1 : Hid (∀ j, j < 1 * 3 → (mtc (updM y.md k m) (k * 3 + j)).oneCell' = true) := fun j _ => mtc_one _ (k * 3 + j + 1) _ (by omega)
  have hbig : w.heap.size + 2 ≤ (w2.alloc (.cells #[.int .i64 m.R, .int .i64 m.C, .slice m.O m.n m.c] 29)).heap.size := by have := HL3.out.lw.ce.cw.big; omega
  have HBG := hidd hbig
  clear hbig f3
  go_wp2_with (at_builtin; refine wpList_app (w2.alloc (.cells #[.int .i64 m.R, .int .i64 m.C, .slice m.O m.n m.c] 29)) rfl _ _ 32 rfl (w.heap.size + 2) 29 zMt 3 40 Try.underlying32 infoMa rfl (by decide) _ k (mtc (updM y.md k m)) rfl HOY.out w2.heap.size 1 1 rfl HNC.out HN1.out (by decide) (by unfold maxLen; omega) (by omega) HBG.out ?_)
  rintro v' w4 hown happ
  obtain ⟨p, uc, rfl, hrd⟩ := hown.rd
  have hc4 := HL3.out.lw.ce.cw.app (by have h1 := HL3.out.M; rw [HL3.out.mn] at h1; exact h1) (by decide) happ
  have fz4 : ∀ j, w4.frozen? ⟨w.heap.size + 2, j, none⟩ = false := hc4.loc.frozen
  have l4 : ∃ v, w4.cell? ⟨w.heap.size + 2, 17, none⟩ = some v := ⟨_, hc4.loc.cell (i := 17) (by decide)⟩
  obtain ⟨v4, l4⟩ := l4
  have HAP := hidd happ
  have HOW := hidd hown
  clear happ hown hrd hc4
  go_wp2
  exact HR.out _ _ _ (LF4.of rfl rfl rfl rfl (by first | rfl | simp)) (HL3.out.step HAP.out HOW.out HO3.out HS.out HOF.out)
set_option maxRecDepth 100000 in
set_option maxHeartbeats 40000000 in
theorem copyWoZ {w : World} {x : WtD} (h : WtR w x) (hB : WtZb x) :
    Calls Try.prog 18 #[.agg #[.int .i64 x.V, .int .i64 x.W, .int .i64 x.H, .int .i64 x.K, .int .i64 x.L, .int .i64 x.D, .int .i64 x.N, .int .i64 x.M, .int .i64 x.E.R, .int .i64 x.E.C, .slice x.E.O x.E.n x.E.c, .slice x.tO x.tn x.tc, .slice x.yO x.yn x.yc, .slice x.F.O x.F.n x.F.c, .int .i64 x.Q.R, .int .i64 x.Q.C, .slice x.Q.O x.Q.n x.Q.c, .slice x.mO x.mn x.mc]] w fun e w' => ∃ y, e = .returned (.agg (wtA y)) ∧ Cpy w w' x y ∧ NoQ x y x.mn := by
  have HK0' := Cw.start w x
  have RG' := Cw.range w x
  have hsz := Cw.size w x
  have HW := hidd h
  have HB := hidd hB
  have HCE : Hid (∀ (z : World) (y : WtD), Cw w z x y → Calls Try.prog 45 #[.agg #[.int .i64 x.E.R, .int .i64 x.E.C, .slice x.E.O x.E.n x.E.c]] z fun e w' => ∃ u c, e = .returned (.agg #[.int .i64 x.E.R, .int .i64 x.E.C, .slice u x.E.n c]) ∧ OwM w w' { x.E with O := u, c := c } ∧ Below z.heap.size z w') := fun z y hz => (copyMZ (h.E.fresh hz.low) hB.E).mono fun e w' ⟨u, c, h1, h2, h3⟩ => ⟨u, c, h1, h2.weaken (by have := hz.big; omega), h3⟩
  have HCQ : Hid (∀ (z : World) (y : WtD), Cw w z x y → Calls Try.prog 45 #[.agg #[.int .i64 x.Q.R, .int .i64 x.Q.C, .slice x.Q.O x.Q.n x.Q.c]] z fun e w' => ∃ u c, e = .returned (.agg #[.int .i64 x.Q.R, .int .i64 x.Q.C, .slice u x.Q.n c]) ∧ Own w' z.heap.size 84 1 (.slice u x.Q.n c) x.Q.n (fun i => .int .i8 (x.Q.f i)) ∧ Below z.heap.size z w') := fun z y hz => copyMZ (h.Q.fresh hz.low) hB.Q
  have HCT : Hid (∀ (z : World) (y : WtD), Cw w z x y → Calls Try.prog 46 #[.slice x.tO x.tn x.tc] z fun e w' => ∃ u c, e = .returned (.slice u x.tn c) ∧ Own w' (w.heap.size + 2) 97 2 (.slice u x.tn c) x.tn (tcs x.tC x.tS) ∧ Below z.heap.size z w') := fun z y hz => (copyTZ (h.T.fresh hz.low) hB.T).mono fun e w' ⟨u, c, h1, h2, h3⟩ => ⟨u, c, h1, h2.weaken (by have := hz.big; omega), h3⟩
  have HCF : Hid (∀ (z : World) (y : WtD), Cw w z x y → Calls Try.prog 48 #[.slice x.F.O x.F.n x.F.c] z fun e w' => ∃ u c, e = .returned (.slice u x.F.n c) ∧ OwS w w' { x.F with O := u, c := c } ∧ Below z.heap.size z w') := fun z y hz => (copyNZ (h.F.rd.fresh hz.low) hB.F).mono fun e w' ⟨u, c, h1, h2, h3⟩ => ⟨u, c, h1, h2.weaken (by have := hz.big; omega), h3⟩
  clear h hB
  go_enter Try.func18, Try.ntmps18
  go_upto_region 1 with fail
  generalize hwb : (w.alloc (.cells #[.int .i64 x.V, .int .i64 x.W, .int .i64 x.H, .int .i64 x.K, .int .i64 x.L, .int .i64 x.D, .int .i64 x.N, .int .i64 x.M, .int .i64 x.E.R, .int .i64 x.E.C, .slice x.E.O x.E.n x.E.c, .slice x.tO x.tn x.tc, .slice x.yO x.yn x.yc, .slice x.F.O x.F.n x.F.c, .int .i64 x.Q.R, .int .i64 x.Q.C, .slice x.Q.O x.Q.n x.Q.c, .slice x.mO x.mn x.mc] 34)).alloc (.cells #[.int .i64 0, .int .i64 0, .int .i64 0, .int .i64 0, .int .i64 0, .int .i64 0, .int .i64 0, .int .i64 0, .int .i64 0, .int .i64 0, .slice none 0 0, .slice none 0 0, .slice none 0 0, .slice none 0 0, .int .i64 0, .int .i64 0, .slice none 0 0, .slice none 0 0] 34) = wb at *
  clear hwb
  obtain ⟨T, hT⟩ : ∃ T, T = wtA x := ⟨_, rfl⟩
  rw [← hT] at HK0'
  have RG : Hid (wb.rangeAt w.heap.size 0 T.toList) := by rw [hT]; exact RG'
  have SL : Hid ((Try.prog.info? 34).map (·.size) = some T.toList.length) := by rw [hT]; exact sizeW
  have S18 : Hid ((Try.prog.info? 34).map (·.size) = some T.size) := by rw [hT]; exact sizeW
  have H1 : Hid (T.all (·.oneCell') = true) := by rw [hT]; exact wtA_one x
  have HOZ : Hid ((#[.int .i64 0, .int .i64 0, .int .i64 0, .int .i64 0, .int .i64 0, .int .i64 0, .int .i64 0, .int .i64 0, .int .i64 0, .int .i64 0, .slice none 0 0, .slice none 0 0, .slice none 0 0, .slice none 0 0, .int .i64 0, .int .i64 0, .slice none 0 0, .slice none 0 0] : Array Value).size = T.size) := by rw [hT]; rfl
  have HZH : Hid ((wb.alloc (.cells #[.int .i64 0, .int .i64 0, .int .i64 0, .int .i64 0, .int .i64 0, .int .i64 0, .int .i64 0, .int .i64 0, .int .i64 0, .int .i64 0, .slice none 0 0, .slice none 0 0, .slice none 0 0, .slice none 0 0, .int .i64 0, .int .i64 0, .slice none 0 0, .slice none 0 0] 34)).heap[w.heap.size + 2]? = some (.cells #[.int .i64 0, .int .i64 0, .int .i64 0, .int .i64 0, .int .i64 0, .int .i64 0, .int .i64 0, .int .i64 0, .int .i64 0, .int .i64 0, .slice none 0 0, .slice none 0 0, .slice none 0 0, .slice none 0 0, .int .i64 0, .int .i64 0, .slice none 0 0, .slice none 0 0] 34 (0, 0))) := by show _ = _; rw [← hsz]; exact heap_new _ _
  have HEQ : Hid ((wb.alloc (.cells #[.int .i64 0, .int .i64 0, .int .i64 0, .int .i64 0, .int .i64 0, .int .i64 0, .int .i64 0, .int .i64 0, .int .i64 0, .int .i64 0, .slice none 0 0, .slice none 0 0, .slice none 0 0, .slice none 0 0, .int .i64 0, .int .i64 0, .slice none 0 0, .slice none 0 0] 34)).setRow (w.heap.size + 2) T = wb.alloc (.cells T 34)) := by show _ = _; rw [← hsz]; exact World.setRow_alloc_new _ _ _ _
  have HK0 := hidd HK0'
  clear HK0' RG' hT
  go_upto_region 2 with (first | refine wpList_load_mid rfl 34 _ rfl w.heap.size 0 rfl T.toList _ RG.out Try.underlying34 rfl SL.out ?_ | refine wpList_store_row rfl 34 _ _ rfl (w.heap.size + 2) T rfl rfl 34 _ HZH.out S18.out HOZ.out H1.out ?_)
  rw [HEQ.out]
  clear HEQ HZH HOZ H1 S18 SL RG
  generalize wb.alloc (.cells T 34) = wa at *
  clear hsz
  have t8 : wa.cell? ⟨w.heap.size, 8, none⟩ = some (.int .i64 x.E.R) := HK0.out.box.cell (i := 8) (by decide)
  have t9 : wa.cell? ⟨w.heap.size, 9, none⟩ = some (.int .i64 x.E.C) := HK0.out.box.cell (i := 9) (by decide)
  have t10 : wa.cell? ⟨w.heap.size, 10, none⟩ = some (.slice x.E.O x.E.n x.E.c) := HK0.out.box.cell (i := 10) (by decide)
  go_wp2_with fail
  clear t8 t9 t10
  refine (HCE.out _ _ HK0.out).mono ?_
  rintro e w1 ⟨u1, c1, rfl, o1, f1⟩
  have O1 := hidd o1
  have G1 := hidd (HK0.out.fresh f1)
  clear o1 f1 HK0 HCE
  have s8 : w1.cell? ⟨w.heap.size + 2, 8, none⟩ = some (.int .i64 x.E.R) := G1.out.loc.cell (i := 8) (by decide)
  have s9 : w1.cell? ⟨w.heap.size + 2, 9, none⟩ = some (.int .i64 x.E.C) := G1.out.loc.cell (i := 9) (by decide)
  have s10 : w1.cell? ⟨w.heap.size + 2, 10, none⟩ = some (.slice x.E.O x.E.n x.E.c) := G1.out.loc.cell (i := 10) (by decide)
  have fz : ∀ j, w1.frozen? ⟨w.heap.size + 2, j, none⟩ = false := G1.out.loc.frozen
  have t11 : w1.cell? ⟨w.heap.size, 11, none⟩ = some (.slice x.tO x.tn x.tc) := G1.out.box.cell (i := 11) (by decide)
  go_wp2_with fail
  clear s8 s9 s10 fz t11
  have G2 := hidd (G1.out.E { x.E with O := u1, c := c1 })
  have O2 : Hid (OwM w (((w1.setCell ⟨w.heap.size + 2, 8, none⟩ (.int .i64 x.E.R)).setCell ⟨w.heap.size + 2, 9, none⟩ (.int .i64 x.E.C)).setCell ⟨w.heap.size + 2, 10, none⟩ (.slice u1 x.E.n c1)) { x.E with O := u1, c := c1 }) := Own.set3 O1.out (own_apart G1.out O1.out (by decide))
  clear O1 G1
  generalize ((w1.setCell ⟨w.heap.size + 2, 8, none⟩ (.int .i64 x.E.R)).setCell ⟨w.heap.size + 2, 9, none⟩ (.int .i64 x.E.C)).setCell ⟨w.heap.size + 2, 10, none⟩ (.slice u1 x.E.n c1) = w2 at *
  refine (HCT.out _ _ G2.out).mono ?_
  rintro e w3 ⟨u3, c3, rfl, o3, f3⟩
  have O3 := hidd o3
  have G3 := hidd (G2.out.fresh f3)
  replace O2 : Hid (OwM w w3 { x.E with O := u1, c := c1 }) := Own.kept O2.out f3
  clear o3 f3 G2 HCT
  have s11 : ∃ v, w3.cell? ⟨w.heap.size + 2, 11, none⟩ = some v := ⟨_, G3.out.loc.cell (i := 11) (by decide)⟩
  have s12 : ∃ v, w3.cell? ⟨w.heap.size + 2, 12, none⟩ = some v := ⟨_, G3.out.loc.cell (i := 12) (by decide)⟩
  have fz : ∀ j, w3.frozen? ⟨w.heap.size + 2, j, none⟩ = false := G3.out.loc.frozen
  obtain ⟨v11, s11⟩ := s11
  obtain ⟨v12, s12⟩ := s12
  have hb := HB.out.Y
  have hm := HB.out.M
  have G4 := hidd ((G3.out.T u3 x.tn c3 x.tC x.tS).Y none 0 0 x.ly)
  have HL0 : Hid (Lw w ((w3.setCell ⟨w.heap.size + 2, 11, none⟩ (.slice u3 x.tn c3)).setCell ⟨w.heap.size + 2, 12, none⟩ (.slice none 0 0)) x { x with E := { x.E with O := u1, c := c1 }, tO := u3, tn := x.tn, tc := c3, tC := x.tC, tS := x.tS, yO := none, yn := 0, yc := 0, ly := x.ly } 0) :=
    ⟨⟨G4.out, ⟨rfl, rfl, rfl, rfl, rfl, rfl, rfl, rfl⟩, Own.set2 O2.out (own_apart G3.out O2.out (by decide)), ⟨rfl, rfl, rfl, rfl⟩, Own.set2 O3.out (own_apart G3.out O3.out (by decide)), rfl, rfl, rfl⟩, own_nil _ _ _ _ _, rfl, fun j hj => absurd hj (by omega)⟩
  clear G3 G4 O2 O3
  go_wp2
  refine loop_invP (c := loopL) (fun q a wz => ∃ (k : Nat) (y : WtD), q + k = x.yn ∧ LF3 w.heap.size k a ∧ Hid (Lw w wz x y k)) x.yn ⟨0, _, by omega, LF3.of rfl rfl rfl rfl (by first | rfl | simp), HL0.out⟩ ?_
  clear HL0 fz s11 s12
  rintro q a wr ⟨k, y, hq, ha, HL⟩
  by_cases hlt : k < x.yn
  · refine then_only (fun _ _ h => h) (roundLZ HW HB hb hlt HL a ha _ (hidd fun a' w' y' h1 h2 => ?_))
    exact ⟨q - 1, by omega, k + 1, y', by omega, h1, h2⟩
  · obtain rfl : k = x.yn := by omega
    obtain ⟨u, e1, e2, e3, e4, rfl⟩ := ha
    rw [e1, e2, e3, e4]
    clear e1 e2 e3 e4 hq
    conv => arg 2; whnf
    have hnl : ¬ ((x.yn : Int) < (x.yn : Int)) := by omega
    have b12 : wr.cell? ⟨w.heap.size, 12, none⟩ = some (.slice x.yO x.yn x.yc) := HL.out.ce.cw.box.cell (i := 12) (by decide)
    have b13 : wr.cell? ⟨w.heap.size, 13, none⟩ = some (.slice x.F.O x.F.n x.F.c) := HL.out.ce.cw.box.cell (i := 13) (by decide)
    go_wp2_with fail
    clear b12 b13
    refine (HCF.out _ _ HL.out.ce.cw).mono ?_
    rintro e w5 ⟨u5, c5, rfl, o5, f5⟩
    have O5 := hidd o5
    have G5 := hidd (HL.out.fresh f5)
    clear o5 f5 HL HCF
    have s13 : ∃ v, w5.cell? ⟨w.heap.size + 2, 13, none⟩ = some v := ⟨_, G5.out.ce.cw.loc.cell (i := 13) (by decide)⟩
    obtain ⟨v13, s13⟩ := s13
    have fz : ∀ j, w5.frozen? ⟨w.heap.size + 2, j, none⟩ = false := G5.out.ce.cw.loc.frozen
    have t14 : w5.cell? ⟨w.heap.size, 14, none⟩ = some (.int .i64 x.Q.R) := G5.out.ce.cw.box.cell (i := 14) (by decide)
    have t15 : w5.cell? ⟨w.heap.size, 15, none⟩ = some (.int .i64 x.Q.C) := G5.out.ce.cw.box.cell (i := 15) (by decide)
    have t16 : w5.cell? ⟨w.heap.size, 16, none⟩ = some (.slice x.Q.O x.Q.n x.Q.c) := G5.out.ce.cw.box.cell (i := 16) (by decide)
    go_wp2_with fail
    clear s13 fz t14 t15 t16
    have S5 : Hid (∀ {e : TypeId} {sz b n : Nat} {v : Value} {cs : Nat → Value}, e ≠ 34 → Own w5 b e sz v n cs → Own (w5.setCell ⟨w.heap.size + 2, 13, none⟩ (.slice u5 x.F.n c5)) b e sz v n cs) := fun n2 hz => hz.set (own_apart G5.out.ce.cw hz n2)
    have G6 := hidd (G5.out.ce.cw.F { x.F with O := u5, c := c5 })
    have O6 : Hid (OwS w (w5.setCell ⟨w.heap.size + 2, 13, none⟩ (.slice u5 x.F.n c5)) { x.F with O := u5, c := c5 }) := S5.out (by decide) O5.out
    have L6 : Hid (Lw w (w5.setCell ⟨w.heap.size + 2, 13, none⟩ (.slice u5 x.F.n c5)) x { y with F := { x.F with O := u5, c := c5 } } x.yn) :=
      ⟨⟨G6.out, G5.out.ce.cfg, S5.out (by decide) G5.out.ce.E, G5.out.ce.sE, S5.out (by decide) G5.out.ce.T, G5.out.ce.sT⟩, S5.out (by decide) G5.out.Y, G5.out.yn, fun j hj => ⟨⟨S5.out (by decide) (G5.out.yy j hj).1.1, S5.out (by decide) (G5.out.yy j hj).1.2.1, fun q hq => S5.out (by decide) ((G5.out.yy j hj).1.2.2 q hq)⟩, (G5.out.yy j hj).2⟩⟩
    clear S5 G5 O5 G6
    generalize w5.setCell ⟨w.heap.size + 2, 13, none⟩ (.slice u5 x.F.n c5) = w6 at *
    refine (HCQ.out _ _ L6.out.ce.cw).mono ?_
    rintro e w7 ⟨u7, c7, rfl, o7, f7⟩
    have NQ : Hid (NoQ x { y with F := { x.F with O := u5, c := c5 }, Q := { x.Q with O := u7, c := c7 }, mO := none, mn := 0, mc := 0, md := x.md } 0) :=
      ⟨off_late o7 L6.out.ce.E (Nat.le_refl _), off_late o7 O6.out (Nat.le_refl _), fun j hj => off_late o7 (L6.out.yy j hj).1.1 (Nat.le_refl _), fun j hj => off_late o7 (L6.out.yy j hj).1.2.1 (Nat.le_refl _), fun j hj q hq => off_late o7 ((L6.out.yy j hj).1.2.2 q hq) (Nat.le_refl _), fun j hj => absurd hj (by omega)⟩
    have O7 : Hid (OwM w w7 { x.Q with O := u7, c := c7 }) := o7.weaken (by have := L6.out.ce.cw.big; omega)
    have G7 := hidd (L6.out.fresh f7)
    replace O6 : Hid (OwS w w7 { x.F with O := u5, c := c5 }) := Own.kept O6.out f7
    clear o7 f7 L6 HCQ
    have s14 : ∃ v, w7.cell? ⟨w.heap.size + 2, 14, none⟩ = some v := ⟨_, G7.out.ce.cw.loc.cell (i := 14) (by decide)⟩
    have s15 : ∃ v, w7.cell? ⟨w.heap.size + 2, 15, none⟩ = some v := ⟨_, G7.out.ce.cw.loc.cell (i := 15) (by decide)⟩
    have s16 : ∃ v, w7.cell? ⟨w.heap.size + 2, 16, none⟩ = some v := ⟨_, G7.out.ce.cw.loc.cell (i := 16) (by decide)⟩
    have s17 : ∃ v, w7.cell? ⟨w.heap.size + 2, 17, none⟩ = some v := ⟨_, G7.out.ce.cw.loc.cell (i := 17) (by decide)⟩
    obtain ⟨v14, s14⟩ := s14
    obtain ⟨v15, s15⟩ := s15
    obtain ⟨v16, s16⟩ := s16
    obtain ⟨v17, s17⟩ := s17
    have fz : ∀ j, w7.frozen? ⟨w.heap.size + 2, j, none⟩ = false := G7.out.ce.cw.loc.frozen
    have S7 : Hid (∀ {e : TypeId} {sz b n : Nat} {v : Value} {cs : Nat → Value}, e ≠ 34 → Own w7 b e sz v n cs → Own ((((w7.setCell ⟨w.heap.size + 2, 14, none⟩ (.int .i64 x.Q.R)).setCell ⟨w.heap.size + 2, 15, none⟩ (.int .i64 x.Q.C)).setCell ⟨w.heap.size + 2, 16, none⟩ (.slice u7 x.Q.n c7)).setCell ⟨w.heap.size + 2, 17, none⟩ (.slice none 0 0)) b e sz v n cs) := fun n2 hz => by
      have h9 := own_apart G7.out.ce.cw hz n2
      exact (((hz.set h9).set h9).set h9).set h9
    have G8 := hidd ((G7.out.ce.cw.Q { x.Q with O := u7, c := c7 }).M none 0 0 x.md)
    have HM0 : Hid (Mw w ((((w7.setCell ⟨w.heap.size + 2, 14, none⟩ (.int .i64 x.Q.R)).setCell ⟨w.heap.size + 2, 15, none⟩ (.int .i64 x.Q.C)).setCell ⟨w.heap.size + 2, 16, none⟩ (.slice u7 x.Q.n c7)).setCell ⟨w.heap.size + 2, 17, none⟩ (.slice none 0 0)) x { y with F := { x.F with O := u5, c := c5 }, Q := { x.Q with O := u7, c := c7 }, mO := none, mn := 0, mc := 0, md := x.md } 0) :=
      ⟨⟨⟨G8.out, G7.out.ce.cfg, S7.out (by decide) G7.out.ce.E, G7.out.ce.sE, S7.out (by decide) G7.out.ce.T, G7.out.ce.sT⟩, S7.out (by decide) G7.out.Y, G7.out.yn, fun j hj => ⟨⟨S7.out (by decide) (G7.out.yy j hj).1.1, S7.out (by decide) (G7.out.yy j hj).1.2.1, fun q hq => S7.out (by decide) ((G7.out.yy j hj).1.2.2 q hq)⟩, (G7.out.yy j hj).2⟩⟩, S7.out (by decide) O6.out, ⟨rfl, rfl⟩, S7.out (by decide) O7.out, ⟨rfl, rfl, rfl, rfl⟩, own_nil _ _ _ _ _, rfl, fun j hj => absurd hj (by omega), NQ.out⟩
    clear S7 G7 G8 O6 O7 NQ
    go_wp2
    refine loop_invP (c := loopN) (fun q a wz => ∃ (k : Nat) (y : WtD), q + k = x.mn ∧ LF4 w.heap.size k a ∧ Hid (Mw w wz x y k)) x.mn ⟨0, _, by omega, LF4.of rfl rfl rfl rfl (by first | rfl | simp), HM0.out⟩ ?_
    clear HM0 fz s14 s15 s16 s17
    rintro q a wr ⟨k, y, hq, ha, HL⟩
    by_cases hlt : k < x.mn
    · refine then_only (fun _ _ h => h) (roundNZ HW HB hm hlt HL a ha _ (hidd fun a' w' y' h1 h2 => ?_))
      exact ⟨q - 1, by omega, k + 1, y', by omega, h1, h2⟩
    · obtain rfl : k = x.mn := by omega
      obtain ⟨u, e1, e2, e3, e6, rfl⟩ := ha
      rw [e1, e2, e3, e6]
      clear e1 e2 e3 e6 hq
      conv => arg 2; whnf
      have hnl2 : ¬ ((x.mn : Int) < (x.mn : Int)) := by omega
      have b17 : wr.cell? ⟨w.heap.size, 17, none⟩ = some (.slice x.mO x.mn x.mc) := HL.out.lw.ce.cw.box.cell (i := 17) (by decide)
      have RG' : wr.rangeAt (w.heap.size + 2) 0 (wtL y) := row_range HL.out.lw.ce.cw.loc rfl
      obtain ⟨T9, hT⟩ : ∃ T9, T9 = wtA y := ⟨_, rfl⟩
      have RG : Hid (wr.rangeAt (w.heap.size + 2) 0 T9.toList) := by rw [hT]; exact RG'
      have SL : Hid ((Try.prog.info? 34).map (·.size) = some T9.toList.length) := by rw [hT]; exact sizeW
      have S18 : Hid ((Try.prog.info? 34).map (·.size) = some T9.size) := by rw [hT]; exact sizeW
      have H1 : Hid (T9.all (·.oneCell') = true) := by rw [hT]; exact wtA_one y
      obtain ⟨old, hold, hosz, _⟩ := HL.out.lw.ce.cw.res
      have HOLD := hidd hold
      have HOSZ : Hid (old.size = T9.size) := by rw [hT]; exact hosz
      have HTT := hidd hT
      clear hold hosz hT RG'
      go_wp2_with (refine wpList_load_mid rfl 34 _ rfl (w.heap.size + 2) 0 rfl T9.toList _ RG.out Try.underlying34 rfl SL.out (wpList_store_row rfl 34 _ _ rfl (w.heap.size + 1) T9 rfl rfl 34 old HOLD.out S18.out HOSZ.out H1.out ?_))
      refine bodyPost_ret (v := .agg T9) ?_ ?_ ?_
      · exact results_cell_row Try.results18 _ _ (w.heap.size + 1) 34 _ (0, 0) _ rfl (setRow_heap _ _ _ _ _ _ HOLD.out) Try.underlying34 rfl S18.out
      · rfl
      · exact ⟨y, by rw [HTT.out], HL.out.ends T9, HL.out.nq⟩
theorem copyWZ {w : World} {x : WtD} (h : WtR w x) (hB : WtZb x) :
    Calls Try.prog 18 #[.agg #[.int .i64 x.V, .int .i64 x.W, .int .i64 x.H, .int .i64 x.K, .int .i64 x.L, .int .i64 x.D, .int .i64 x.N, .int .i64 x.M, .int .i64 x.E.R, .int .i64 x.E.C, .slice x.E.O x.E.n x.E.c, .slice x.tO x.tn x.tc, .slice x.yO x.yn x.yc, .slice x.F.O x.F.n x.F.c, .int .i64 x.Q.R, .int .i64 x.Q.C, .slice x.Q.O x.Q.n x.Q.c, .slice x.mO x.mn x.mc]] w fun e w' => ∃ y, e = .returned (.agg (wtA y)) ∧ Cpy w w' x y := (copyWoZ h hB).mono fun _ _ ⟨y, h1, h2, _⟩ => ⟨y, h1, h2⟩
end Go.Proofs.Ytilghknalbhacaa
