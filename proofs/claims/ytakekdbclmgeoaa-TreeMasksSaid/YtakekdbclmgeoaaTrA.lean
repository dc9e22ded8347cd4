import Derived.Test.YtakekdbclmgeoaaRows
import Derived.Test.YtakekdbclmgeoaaOwn
import Derived.Test.YtakekdbclmgeoaaLat
import Derived.RangeFuncRecord
namespace Go.Proofs.Ytakekdbclmgeoaa
open Go.RowKit
/-! Nodes in memory; EqNodes, CopyNodes, spareNodes, nodesStay. -/
theorem infoN : (Try.prog.info? 54).map (fun i => (i.zero, i.size, i.bytes)) = some (some (.agg #[.int .i64 0, .int .i64 0, .int .i64 0]), 3, 24) := by kernel_rfl
def nds (P T D : Nat → Int) : Nat → Value := fun j => if j % 3 = 0 then .int .i64 (P (j / 3)) else if j % 3 = 1 then .int .i64 (T (j / 3)) else .int .i64 (D (j / 3))
theorem nds_0 (P T D : Nat → Int) (i : Nat) : nds P T D (i * 3) = .int .i64 (P i) := by
  unfold nds
  rw [if_pos (by omega), show i * 3 / 3 = i by omega]
theorem nds_1 (P T D : Nat → Int) (i : Nat) : nds P T D (i * 3 + 1) = .int .i64 (T i) := by
  unfold nds
  rw [if_neg (by omega), if_pos (by omega), show (i * 3 + 1) / 3 = i by omega]
theorem nds_2 (P T D : Nat → Int) (i : Nat) : nds P T D (i * 3 + 2) = .int .i64 (D i) := by
  unfold nds
  rw [if_neg (by omega), if_neg (by omega), show (i * 3 + 2) / 3 = i by omega]
theorem nds_one (P T D : Nat → Int) (j : Nat) : (nds P T D j).oneCell' = true := by
  unfold nds
  split
  · rfl
  · split <;> rfl
theorem nds_congr {P T D P' T' D' : Nat → Int} {n : Nat} (h : ∀ i, i < n → P i = P' i ∧ T i = T' i ∧ D i = D' i) {j : Nat} (hj : j < n * 3) : nds P T D j = nds P' T' D' j := by
  obtain ⟨h1, h2, h3⟩ := h (j / 3) (by omega)
  unfold nds
  rw [h1, h2, h3]
theorem own_rda {w : World} {base : Nat} {e : TypeId} {sz : Nat} {u : Option Addr} {m c n : Nat} {cs : Nat → Value} (h : Own w base e sz (.slice u m c) n cs) : RdA w u sz n c cs := by
  obtain ⟨u', c', e', hr⟩ := h.rd
  cases e'
  exact hr
theorem RdA.node {w : World} {ao : Option Addr} {n cap : Nat} {P T D : Nat → Int} (h : RdA w ao 3 n cap (nds P T D)) (hn : 0 < n) : ∃ b o, ao = some ⟨b, o, none⟩ ∧ ∀ i, i < n → w.cell? ⟨b, o + i * 3, none⟩ = some (.int .i64 (P i)) ∧ w.cell? ⟨b, o + i * 3 + 1, none⟩ = some (.int .i64 (T i)) ∧ w.cell? ⟨b, o + i * 3 + 2, none⟩ = some (.int .i64 (D i)) := by
  obtain ⟨b, o, e, hc⟩ := h.at_ hn
  refine ⟨b, o, e, fun i hi => ?_⟩
  have c0 := hc (i * 3) (by omega)
  have c1 := hc (i * 3 + 1) (by omega)
  have c2 := hc (i * 3 + 2) (by omega)
  rw [nds_0] at c0
  rw [nds_1, ← Nat.add_assoc] at c1
  rw [nds_2, ← Nat.add_assoc] at c2
  exact ⟨c0, c1, c2⟩
theorem RdA.firsts {w : World} {ao : Option Addr} {sz n m cap : Nat} {cs : Nat → Value} (h : RdA w ao sz n cap cs) (hm : m ≤ n) : RdA w ao sz m cap cs :=
  ⟨by have := h.le; omega, h.top, fun h0 => by
    obtain ⟨b, off, e, hc⟩ := h.at_ (by omega)
    exact ⟨b, off, e, fun j hj => hc j (Nat.lt_of_lt_of_le hj (Nat.mul_le_mul_right sz hm))⟩⟩
set_option maxRecDepth 20000 in
set_option maxHeartbeats 1600000 in
theorem eqNodes_same {w : World} {ao bo : Option Addr} {n ca cb : Nat} {P T D : Nat → Int} (ha : RdA w ao 3 n ca (nds P T D)) (hb : RdA w bo 3 n cb (nds P T D)) :
    Calls Try.prog 20 #[.slice ao n ca, .slice bo n cb] w fun e w' => e = .returned (.bool true) ∧ Below w.heap.size w w' := by
  have hn : n ≤ 9223372036854775807 := by have := ha.le; have := ha.top; unfold maxLen at this; omega
  go_enter Try.func20, Try.ntmps20
  go_wp2
  go_loopw [5] (fun i wr => ∃ k : Nat, k ≤ n ∧ i = .int .i64 k ∧ Below w.heap.size w wr) (fun i _ => n - (intOf i).toNat)
  case atStart => exact ⟨0, by omega, rfl, Below.refl _ _⟩
  case round =>
    obtain ⟨k, hk, rfl, hf⟩ := hrel
    by_cases hlt : k < n
    · obtain ⟨b1, o1, rfl, h1⟩ := (ha.fresh hf).node (by omega)
      obtain ⟨b2, o2, rfl, h2⟩ := (hb.fresh hf).node (by omega)
      obtain ⟨c1, c2, c3⟩ := h1 k hlt
      obtain ⟨d1, d2, d3⟩ := h2 k hlt
      clear h1 h2
      generalize P k = y1 at *
      generalize T k = y2 at *
      generalize D k = y3 at *
      go_wp2
      go_quiet (fail)
      go_wp2
      go_roundw
      case rel => exact ⟨k + 1, by omega, by go_num, below_drewN hf _⟩
      case measure => simp [intOf]; omega
    · obtain rfl : n = k := by omega
      go_wp2
      go_ret
      exact ⟨rfl, hf⟩
set_option maxRecDepth 20000 in
set_option maxHeartbeats 1600000 in
theorem copyN_any {w : World} {ao : Option Addr} {n cap : Nat} {P T D : Nat → Int} (h : RdA w ao 3 n cap (nds P T D)) (hn : n * 24 ≤ 140737488351232) :
    Calls Try.prog 28 #[.slice ao n cap] w fun e w' => ∃ u uc, e = .returned (.slice u n uc) ∧ Own w' w.heap.size 54 3 (.slice u n uc) n (nds P T D) ∧ Below w.heap.size w w' := by
  have hn2 : n ≤ 9223372036854775807 := by omega
  go_enter Try.func28, Try.ntmps28
  go_wp2
  go_loopw [3, 4] (fun v i wr => ∃ k : Nat, k ≤ n ∧ i = .int .i64 k ∧ Own wr w.heap.size 54 3 v k (nds P T D) ∧ Below w.heap.size w wr) (fun _ i _ => n - (intOf i).toNat)
  case atStart => exact ⟨0, by omega, rfl, own_nil _ _ _ _ _, Below.refl _ _⟩
  case round =>
    obtain ⟨k, hk, rfl, hown, hf⟩ := hrel
    have hsz := hf.size
    by_cases hlt : k < n
    · obtain ⟨b1, o1, rfl, h1⟩ := (h.fresh hf).node (by omega)
      obtain ⟨c1, c2, c3⟩ := h1 k hlt
      have hle := h.le
      have HX : Hid (∀ j, j < 1 * 3 → (wr.alloc (.cells #[.int .i64 (P k), .int .i64 (T k), .int .i64 (D k)] 54)).cell? ⟨wr.heap.size, j, none⟩ = some (nds P T D (k * 3 + j))) := fun j hj => by
        unfold World.cell?
        rw [World.alloc_heap_new]
        match j, hj with
        | 0, _ => rw [Nat.add_zero, nds_0]; rfl
        | 1, _ => rw [nds_1]; rfl
        | 2, _ => rw [nds_2]; rfl
      clear h1
      generalize P k = y1 at c1 HX
      generalize T k = y2 at c2 HX
      generalize D k = y3 at c3 HX
      go_wp2_with (at_builtin; refine wpList_app _ rfl _ _ 29 rfl w.heap.size 54 (.agg #[.int .i64 0, .int .i64 0, .int .i64 0]) 3 24 Try.underlying29 infoN rfl (by decide) _ k (nds P T D) rfl (hown.kept (fresh_alloc _ _)) _ 1 1 rfl HX.out (fun j _ => nds_one P T D _) (by decide) (by unfold maxLen; omega) (by omega) (by simp; omega) ?_)
      intro v' w1 hown' happ
      have hf1 := happ.below (hf.alloc hsz _) (hown.kept (fresh_alloc _ _)) (Nat.le_refl _) (by simp; omega)
      clear happ hown
      go_wp2
      go_roundw
      case rel => exact ⟨k + 1, by omega, by go_num, hown', hf1⟩
      case measure => simp [intOf]; omega
    · obtain rfl : k = n := by omega
      obtain ⟨u, uc, rfl, hu⟩ := hown.rd
      go_wp2
      go_ret
      exact ⟨u, uc, rfl, hown, hf⟩
/-- the nodes with a mark behind them -/
def mkN (n : Nat) (f : Nat → Int) (x : Int) : Nat → Int := fun i => if i < n then f i else x
theorem mkN_lt {n i : Nat} (f : Nat → Int) (x : Int) (h : i < n) : mkN n f x i = f i := if_pos h
theorem mkN_at (n : Nat) (f : Nat → Int) (x : Int) : mkN n f x n = x := if_neg (by omega)
def mkd (n : Nat) (P T D : Nat → Int) : Nat → Value := nds (mkN n P (-75)) (mkN n T (-76)) (mkN n D (-77))
theorem mkd_lt (n : Nat) (P T D : Nat → Int) {j : Nat} (h : j < n * 3) : mkd n P T D j = nds P T D j := nds_congr (n := n) (fun _ hi => ⟨mkN_lt P _ hi, mkN_lt T _ hi, mkN_lt D _ hi⟩) h
/-- a marked tree -/
structure Mkd (w w' : World) (u : Option Addr) (c n : Nat) (P T D : Nat → Int) : Prop where
  own : Own w' w.heap.size 54 3 (.slice u (n + 1) c) (n + 1) (mkd n P T D)
  low : Below w.heap.size w w'
theorem Mkd.all {w w' : World} {u : Option Addr} {c n : Nat} {P T D : Nat → Int} (h : Mkd w w' u c n P T D) : RdA w' u 3 (n + 1) c (mkd n P T D) := own_rda h.own
theorem Mkd.rd {w w' : World} {u : Option Addr} {c n : Nat} {P T D : Nat → Int} (h : Mkd w w' u c n P T D) : RdA w' u 3 n c (nds P T D) := (h.all.firsts (Nat.le_succ n)).congr (fun _ hj => mkd_lt n P T D hj)
set_option maxRecDepth 20000 in
set_option maxHeartbeats 1600000 in
theorem spareN_any {w : World} {ao : Option Addr} {n cap : Nat} {P T D : Nat → Int} (h : RdA w ao 3 n cap (nds P T D)) (hn : n * 24 ≤ 140737488351232) :
    Calls Try.prog 14 #[.slice ao n cap] w fun e w' => ∃ u uc, e = .returned (.slice u n uc) ∧ Mkd w w' u uc n P T D := by
  have HCP := hidd (copyN_any h hn)
  clear h
  go_enter Try.func14, Try.ntmps14
  have HHX : Hid (∀ (w1 : World) (u : Option Addr) (uc : Nat), Own w1 w.heap.size 54 3 (.slice u n uc) n (nds P T D) → Below w.heap.size w w1 → Hid (Own w1 w.heap.size 54 3 (.slice u n uc) n (mkd n P T D)) ∧ Hid (∀ j, j < 1 * 3 → (w1.alloc (.cells #[.int .i64 (-75), .int .i64 (-76), .int .i64 (-77)] 54)).cell? ⟨w1.heap.size, j, none⟩ = some (mkd n P T D (n * 3 + j))) ∧ Hid (Below w.heap.size w w1) ∧ w.heap.size ≤ w1.heap.size) := by
    intro w1 u uc ho1 hb1
    refine ⟨ho1.congr (fun j hj => (mkd_lt n P T D hj).symm), fun j hj => ?_, hb1, hb1.size⟩
    unfold World.cell? mkd
    rw [World.alloc_heap_new]
    match j, hj with
    | 0, _ => rw [Nat.add_zero, nds_0, mkN_at]; rfl
    | 1, _ => rw [nds_1, mkN_at]; rfl
    | 2, _ => rw [nds_2, mkN_at]; rfl
  go_wp2_with (first
    | (go_at_call 28; with_reducible refine HCP.out.mono ?_; rintro e w1 ⟨u, uc, rfl, ho1, hb1⟩; obtain ⟨HO1, HX, HB1, hsz⟩ := HHX.out w1 u uc ho1 hb1; clear ho1 hb1 HCP HHX)
    | (at_builtin; refine wpList_app _ rfl _ _ 29 rfl w.heap.size 54 (.agg #[.int .i64 0, .int .i64 0, .int .i64 0]) 3 24 Try.underlying29 infoN rfl (by decide) _ n (mkd n P T D) rfl (HO1.out.kept (fresh_alloc _ _)) _ 1 1 rfl HX.out (fun j _ => nds_one _ _ _ _) (by decide) (by unfold maxLen; omega) (by omega) (by simp; omega) ?_))
  intro v' w2 hown' happ
  have hf2 := happ.below (HB1.out.alloc hsz _) (HO1.out.kept (fresh_alloc _ _)) (Nat.le_refl _) (by simp; omega)
  obtain ⟨u2, c2, rfl, hr2⟩ := hown'.rd
  have HM : Hid (Mkd w w2 u2 c2 n P T D) := ⟨hown', hf2⟩
  have hle := hr2.le
  have e1 : (n : Int) ≤ (c2 : Int) := by omega
  obtain ⟨b, o, rfl, _⟩ := hr2.at_ (by omega)
  clear happ hown' hr2 hf2 HX HO1 HB1
  go_wp2
  go_ret
  exact ⟨_, _, rfl, HM.out⟩
set_option maxRecDepth 20000 in
set_option maxHeartbeats 1600000 in
theorem staysN_any {w : World} {uo ao : Option Addr} {n uc cap : Nat} {P T D : Nat → Int} (hm : RdA w uo 3 (n + 1) uc (mkd n P T D)) (h : RdA w ao 3 n cap (nds P T D)) :
    Calls Try.prog 17 #[.slice uo n uc, .slice ao n cap] w fun e w' => e = .returned (.bool true) ∧ Below w.heap.size w w' := by
  have HEQ := hidd (eqNodes_same ((hm.firsts (Nat.le_succ n)).congr (fun _ hj => mkd_lt n P T D hj)) h)
  have hle := hm.le
  have htop := hm.top
  unfold maxLen at htop
  obtain ⟨b, o, rfl, h1⟩ := hm.node (by omega)
  obtain ⟨c1, c2, c3⟩ := h1 n (by omega)
  rw [mkN_at] at c1 c2 c3
  have e1 : IntKind.i64.wrap ((n : Int) + 1) = (n : Int) + 1 := wrap_small _ (by omega) (by omega)
  have e2 : (0 : Int) ≤ (n : Int) + 1 := by omega
  have e3 : (n : Int) + 1 ≤ (uc : Int) := by omega
  have e4 : ((n : Int) + 1).toNat = n + 1 := by omega
  have e5 : (n : Int) < ((n + 1 : Nat) : Int) := by omega
  have HCL : Hid (∀ w', Below w.heap.size w w' → w'.cell? ⟨b, o + n * 3, none⟩ = some (.int .i64 (-75)) ∧ w'.cell? ⟨b, o + n * 3 + 1, none⟩ = some (.int .i64 (-76)) ∧ w'.cell? ⟨b, o + n * 3 + 2, none⟩ = some (.int .i64 (-77)) ∧ Hid (Below w.heap.size w w')) := fun w' hf => ⟨fresh_cell hf c1, fresh_cell hf c2, fresh_cell hf c3, hf⟩
  clear hm h h1 c1 c2 c3
  go_enter Try.func17, Try.ntmps17
  go_wp2_with (go_at_call 20; with_reducible refine HEQ.out.mono ?_; rintro e w2 ⟨rfl, hb2⟩; obtain ⟨c1, c2, c3, HB2⟩ := HCL.out w2 hb2; clear hb2)
  go_ret
  exact ⟨rfl, HB2.out⟩
end Go.Proofs.Ytakekdbclmgeoaa
