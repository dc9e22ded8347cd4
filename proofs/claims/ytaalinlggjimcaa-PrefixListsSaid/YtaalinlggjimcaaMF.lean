import Derived.Test.YtaalinlggjimcaaFA
import Derived.BigQuiet
namespace Go.Proofs.Ytaalinlggjimcaa
open Go.RowKit
/-! common, longest, owner. -/
set_option maxRecDepth 20000 in
set_option maxHeartbeats 1600000 in
theorem common_any {w : World} {ao bo : Option Addr} {n ca m cb : Nat} {f g : Nat → Int} (ha : RdA w ao 1 n ca (fun i => .int .i64 (f i))) (hb : RdA w bo 1 m cb (fun i => .int .i64 (g i))) :
    Calls Try.prog 49 #[.slice ao n ca, .slice bo m cb] w fun e w' => (∃ k : Nat, e = .returned (.int .i64 (k : Int)) ∧ Com f g n m k) ∧ Below w.heap.size w w' := by
  have hn : n ≤ 9223372036854775807 := by have := ha.le; have := ha.top; unfold maxLen at this; omega
  have hm : m ≤ 9223372036854775807 := by have := hb.le; have := hb.top; unfold maxLen at this; omega
  go_enter Try.func49, Try.ntmps49
  go_wp2
  go_loopw [5] (fun v wr => ∃ k : Nat, k ≤ n ∧ k ≤ m ∧ v = .int .i64 k ∧ Hid (∀ j, j < k → f j = g j) ∧ Below w.heap.size w wr) (fun v _ => n - (intOf v).toNat)
  case atStart => exact ⟨0, by omega, by omega, rfl, fun j hj => absurd hj (by omega), Below.refl _ _⟩
  case round =>
    obtain ⟨k, hk1, hk2, rfl, HE, hf⟩ := hrel
    by_cases h1 : k < n
    · have x1 : decide ((k : Int) < (n : Int)) = true := decide_eq_true (by omega)
      have k0 : (0 : Int) ≤ (k : Int) := by omega
      have k1 : (k : Int) < (n : Int) := by omega
      by_cases h2 : k < m
      · have x2 : decide ((k : Int) < (m : Int)) = true := decide_eq_true (by omega)
        have k2 : (k : Int) < (m : Int) := by omega
        obtain ⟨b1, o1, rfl, c1⟩ := (ha.fresh hf).one (by omega)
        obtain ⟨b2, o2, rfl, c2⟩ := (hb.fresh hf).one (by omega)
        have d1 := c1 k h1
        have d2 := c2 k h2
        clear c1 c2 ha hb
        by_cases h3 : f k = g k
        · rw [← h3] at d2
          have HE3 := hidd h3
          clear h3
          go_wp2
          go_quiet (fail)
          go_wp2
          go_roundw
          case rel => exact ⟨k + 1, by omega, by omega, by go_num, fun j hj => (by
            by_cases e : j = k
            · rw [e]; exact HE3.out
            · exact HE.out j (by omega)), below_drewN hf _⟩
          case measure => simp [intOf]; omega
        · have x3 : decide (f k = g k) = false := decide_eq_false h3
          have HE3 := hidd h3
          go_wp2
          go_quiet (fail)
          go_wp2
          go_ret
          exact ⟨⟨k, rfl, by omega, by omega, HE.out, fun _ _ => HE3.out⟩, below_drewN hf _⟩
      · have x2 : decide ((k : Int) < (m : Int)) = false := decide_eq_false (by omega)
        have k2 : ¬ (k : Int) < (m : Int) := by omega
        go_wp2
        go_quiet (fail)
        go_wp2
        go_ret
        exact ⟨⟨k, rfl, by omega, by omega, HE.out, fun _ h => absurd h (by omega)⟩, below_drewN hf _⟩
    · have x1 : decide ((k : Int) < (n : Int)) = false := decide_eq_false (by omega)
      have k1 : ¬ (k : Int) < (n : Int) := by omega
      go_wp2
      go_quiet (fail)
      go_wp2
      go_ret
      exact ⟨⟨k, rfl, by omega, by omega, HE.out, fun h => absurd h (by omega)⟩, below_drewN hf _⟩
end Go.Proofs.Ytaalinlggjimcaa
namespace Go.Proofs.Ytaalinlggjimcaa
open Go.RowKit
/-- texts that were kept, in memory -/
structure TxAt (w : World) (Ao : Nat → Option Addr) (Ln Cp : Nat → Nat) (T : Nat → Nat → Int) (r : Nat) : Prop where
  rd : ∀ i, i < r → RdA w (Ao i) 1 (Ln i) (Cp i) (fun j => .int .i64 (T i j))
theorem TxAt.fresh {w w' : World} {Ao : Nat → Option Addr} {Ln Cp : Nat → Nat} {T : Nat → Nat → Int} {r : Nat} (h : TxAt w Ao Ln Cp T r) (f : Below w.heap.size w w') : TxAt w' Ao Ln Cp T r := ⟨fun i hi => (h.rd i hi).fresh f⟩
set_option maxRecDepth 20000 in
set_option maxHeartbeats 1600000 in
theorem lawLongest {w : World} {ko : Option Addr} {r kc : Nat} {Ao : Nat → Option Addr} {Ln Cp : Nat → Nat} {T : Nat → Nat → Int} (hk : RdA w ko 1 r kc (fun i => .slice (Ao i) (Ln i) (Cp i))) (ht : TxAt w Ao Ln Cp T r) {to : Option Addr} {m cap : Nat} {t : Nat → Int} (hx : RdA w to 1 m cap (fun j => .int .i64 (t j))) {S : Nat} (hS : 1 ≤ S ∧ S ≤ 16) :
    Calls Try.prog 20 #[.slice ko r kc, .slice to m cap, .int .i64 (S : Int)] w fun e w' => (∃ best : Nat, e = .returned (.int .i64 (best : Int)) ∧ Best S T Ln r t m best) ∧ Below w.heap.size w w' := by
  obtain ⟨hS1, hS2⟩ := hS
  have hr : r ≤ 9223372036854775807 := by have := hk.le; have := hk.top; unfold maxLen at this; omega
  have hz : ¬ (S : Int) = 0 := by omega
  have hm : m ≤ 9223372036854775807 := by have := hx.le; have := hx.top; unfold maxLen at this; omega
  go_enter Try.func20, Try.ntmps20
  go_wp2
  go_loopw [7, 8, 9] (fun vb vi _ wr => ∃ best i : Nat, i ≤ r ∧ best ≤ 9223372036854775807 ∧ vb = .int .i64 (best : Int) ∧ vi = .int .i64 (i : Int) ∧ Hid (Best S T Ln i t m best) ∧ Below w.heap.size w wr) (fun _ vi _ _ => r - (intOf vi).toNat)
  case atStart => exact ⟨0, 0, by omega, by omega, rfl, rfl, best_zero _ _ _ _ _, Below.refl _ _⟩
  case round =>
    obtain ⟨best, i, hi, hbb, rfl, rfl, HB, hf⟩ := hrel
    by_cases hlt : i < r
    · obtain ⟨b, off, rfl, hc⟩ := (hk.fresh hf).one (by omega)
      have d := hc i hlt
      have HC := hidd (common_any ((ht.rd i hlt).fresh hf) (hx.fresh hf))
      have i0 : (0 : Int) ≤ (i : Int) := by omega
      have i1 : (i : Int) < (r : Int) := by omega
      clear hc hi
      go_wp2_with (go_at_call 49; with_reducible refine HC.out.mono ?_; rintro e w5 ⟨⟨k, rfl, hcm⟩, f5⟩; have hkm := hcm.le2; have hcd := hcm.div ⟨hS1, hS2⟩; have hkd : k / S ≤ k := Nat.div_le_self _ _; have hq : ((k : Int).tdiv (S : Int)) = ((k / S : Nat) : Int) := (by rw [Int.tdiv_eq_ediv_of_nonneg (by omega)]; push_cast; rfl); generalize k / S = q at hq hkd hcd; have HCM := hidd hcd; clear hcm hcd)
      all_goals
        go_roundw
        case rel =>
          have hst := HB.out.step HCM.out
          have hf5 := hf.trans (f5.mono hf.size)
          first
            | (rw [if_pos (by omega)] at hst; exact ⟨q, i + 1, by omega, by omega, rfl, by go_num, hst, hf5⟩)
            | (rw [if_neg (by omega)] at hst; exact ⟨best, i + 1, by omega, by omega, rfl, by go_num, hst, hf5⟩)
        case measure => simp [intOf]; omega
    · obtain rfl : r = i := by omega
      go_wp2
      go_ret
      exact ⟨⟨best, rfl, HB.out⟩, hf⟩
set_option maxRecDepth 20000 in
set_option maxHeartbeats 1600000 in
theorem owner_any {w : World} {ko fo : Option Addr} {r kc fc : Nat} {Ao Bo : Nat → Option Addr} {Ln Cp Bn Bc : Nat → Nat} {T : Nat → Nat → Int} {G : Nat → Nat → Nat} (hk : RdA w ko 1 r kc (fun i => .slice (Ao i) (Ln i) (Cp i))) (ht : TxAt w Ao Ln Cp T r) (hb : RdA w fo 1 r fc (fun i => .slice (Bo i) (Bn i) (Bc i))) (hg : TxAt w Bo Bn Bc (fun i j => (G i j : Int)) r)
    {to : Option Addr} {m cap : Nat} {t : Nat → Int} (hx : RdA w to 1 m cap (fun j => .int .i64 (t j))) {S k i0 : Nat} (hS : 1 ≤ S ∧ S ≤ 16) (hk2 : k ≤ 256) (hi0 : i0 < r) (hkb : k < Bn i0) (h1 : Alike S (T i0) t (Ln i0) m (k + 1)) (h2 : ∀ i, i < i0 → ¬ Alike S (T i) t (Ln i) m (k + 1)) :
    Calls Try.prog 22 #[.slice ko r kc, .slice fo r fc, .slice to m cap, .int .i64 (k : Int), .int .i64 (S : Int)] w fun e w' => e = .returned (.int .i64 (G i0 k : Int)) ∧ Below w.heap.size w w' := by
  obtain ⟨hS1, hS2⟩ := hS
  have hr : r ≤ 9223372036854775807 := by have := hk.le; have := hk.top; unfold maxLen at this; omega
  obtain ⟨P, hP⟩ : ∃ P, P = (k + 1) * S := ⟨_, rfl⟩
  have hP2 : P ≤ 257 * 16 := by rw [hP]; exact Nat.mul_le_mul (by omega) hS2
  have eP : ((k : Int) + 1) * (S : Int) = (P : Int) := by rw [hP]; push_cast; rfl
  have HP := hidd hP
  have H12 := hidd (And.intro h1 h2)
  clear hP h1 h2
  go_enter Try.func22, Try.ntmps22
  go_wp2
  go_loopw [11] (fun vi wr => ∃ i : Nat, i ≤ i0 ∧ vi = .int .i64 (i : Int) ∧ Below w.heap.size w wr) (fun vi _ => r - (intOf vi).toNat)
  case atStart => exact ⟨0, by omega, rfl, Below.refl _ _⟩
  case round =>
    obtain ⟨i, hi, rfl, hf⟩ := hrel
    have hlt : i < r := by omega
    obtain ⟨b, off, rfl, hc⟩ := (hk.fresh hf).one (by omega)
    have d := hc i hlt
    have HC := hidd (common_any ((ht.rd i hlt).fresh hf) (hx.fresh hf))
    have q0 : (0 : Int) ≤ (i : Int) := by omega
    have q1 : (i : Int) < (r : Int) := by omega
    clear hc
    by_cases e0 : i = i0
    · subst e0
      have HB : Hid (∀ Z, Below w.heap.size w Z → ∃ b2 o2 b3 o3, fo = some ⟨b2, o2, none⟩ ∧ Bo i = some ⟨b3, o3, none⟩ ∧ Z.cell? ⟨b2, o2 + i, none⟩ = some (.slice (Bo i) (Bn i) (Bc i)) ∧ Z.cell? ⟨b3, o3 + k, none⟩ = some (.int .i64 (G i k : Int))) := fun Z hZ => by
        obtain ⟨b2, o2, e2, c2⟩ := (hb.fresh hZ).one (by omega)
        obtain ⟨b3, o3, e3, c3⟩ := ((hg.rd i hlt).fresh hZ).one (by omega)
        exact ⟨b2, o2, b3, o3, e2, e3, c2 i hlt, c3 k hkb⟩
      have k0 : (0 : Int) ≤ (k : Int) := by omega
      have k1 : (k : Int) < (Bn i : Int) := by omega
      go_wp2_with (go_at_call 49; with_reducible refine HC.out.mono ?_; rintro e w5 ⟨⟨km, rfl, hcm⟩, f5⟩; have hge : (P : Int) ≤ (km : Int) := (by have := (hcm.blocks ⟨hS1, hS2⟩ (k + 1)).2 H12.out.1; rw [← HP.out] at this; omega); clear hcm; obtain ⟨b2, o2, b3, o3, e2, e3, d2, d3⟩ := HB.out w5 (hf.trans (f5.mono hf.size)); rw [e3] at d2; rw [e2])
      go_ret
      exact ⟨rfl, hf.trans (f5.mono hf.size)⟩
    · go_wp2_with (go_at_call 49; go_loud (with_reducible refine HC.out.mono ?_; rintro e w5 ⟨⟨km, rfl, hcm⟩, f5⟩; have hii : i < i0 := (by omega); have hnb : ¬ P ≤ km := (by rw [HP.out]; exact fun e1 => absurd ((hcm.blocks ⟨hS1, hS2⟩ (k + 1)).1 e1) (H12.out.2 i hii)); have hge : ¬ (P : Int) ≤ (km : Int) := (by omega); clear hcm))
      go_roundw
      case rel => exact ⟨i + 1, by omega, by go_num, hf.trans (f5.mono hf.size)⟩
      case measure => simp [intOf]; omega
end Go.Proofs.Ytaalinlggjimcaa
namespace Go.Proofs.Ytaalinlggjimcaa
open Go.RowKit
/-! taken: blocks, each a free one, none twice. -/
theorem low_free {cnt : Nat → Nat} : ∀ {B : Nat}, 0 < freeN cnt B → ∃ b, b < B ∧ cnt b = 0 ∧ ∀ j, j < b → cnt j ≠ 0
  | 0, h => by simp [freeN] at h
  | B + 1, h => by
    by_cases e : 0 < freeN cnt B
    · obtain ⟨b, h1, h2, h3⟩ := low_free e
      exact ⟨b, by omega, h2, h3⟩
    · obtain ⟨b, h1, h2⟩ := freeN_pos h
      have hn : ∀ j, j < B → cnt j ≠ 0 := fun j hj e0 => by
        have h4 := freeN_upd (cnt := cnt) (b := j) 1 hj
        rw [if_pos e0] at h4
        simp at h4
        omega
      have : b = B := by
        by_cases hb : b < B
        · exact absurd h2 (hn b hb)
        · omega
      exact ⟨b, h1, h2, fun j hj => hn j (by omega)⟩
def putG (G : Nat → Nat) (k b : Nat) : Nat → Nat := fun j => if j = k then b else G j
structure Tkn (B : Nat) (cnt cnt' : Nat → Nat) (G : Nat → Nat) (k : Nat) : Prop where
  lt : ∀ j, j < k → G j < B
  was : ∀ j, j < k → cnt (G j) = 0
  inj : ∀ i j, i < j → j < k → G i ≠ G j
  now : ∀ j, j < k → cnt' (G j) = 1
  oth : ∀ b, (∀ j, j < k → G j ≠ b) → cnt' b = cnt b
  free : freeN cnt' B + k = freeN cnt B
theorem tkn_zero (B : Nat) (cnt : Nat → Nat) (G : Nat → Nat) : Tkn B cnt cnt G 0 := ⟨fun j h => absurd h (by omega), fun j h => absurd h (by omega), fun i j _ h => absurd h (by omega), fun j h => absurd h (by omega), fun _ _ => rfl, rfl⟩
theorem Tkn.step {B : Nat} {cnt cnt' : Nat → Nat} {G : Nat → Nat} {k : Nat} (h : Tkn B cnt cnt' G k) {b : Nat} (hb : b < B) (h0 : cnt' b = 0) : Tkn B cnt (updN cnt' b 1) (putG G k b) (k + 1) := by
  have hne : ∀ j, j < k → G j ≠ b := fun j hj e => by have := h.now j hj; rw [e, h0] at this; omega
  have hG : ∀ j, j < k → putG G k b j = G j := fun j hj => if_neg (by omega)
  have hk : putG G k b k = b := if_pos rfl
  refine ⟨fun j hj => ?_, fun j hj => ?_, fun i j h1 h2 => ?_, fun j hj => ?_, fun x hx => ?_, ?_⟩
  · by_cases e : j = k
    · rw [e, hk]; exact hb
    · rw [hG j (by omega)]; exact h.lt j (by omega)
  · by_cases e : j = k
    · rw [e, hk, ← h.oth b hne]; exact h0
    · rw [hG j (by omega)]; exact h.was j (by omega)
  · by_cases e : j = k
    · rw [e, hk, hG i (by omega)]; exact hne i (by omega)
    · rw [hG i (by omega), hG j (by omega)]; exact h.inj i j h1 (by omega)
  · by_cases e : j = k
    · rw [e, hk, updN_at]
    · rw [hG j (by omega), updN_ne _ _ (hne j (by omega))]; exact h.now j (by omega)
  · have e : x ≠ b := fun e => by have := hx k (by omega); rw [hk] at this; exact this e.symm
    rw [updN_ne _ _ e]
    exact h.oth x (fun j hj => by have := hx j (by omega); rw [hG j hj] at this; exact this)
  · have := freeN_take (x := 1) hb h0 (by decide)
    have := h.free
    omega
theorem own_off {w : World} {base : Nat} {e : TypeId} {sz : Nat} {v : Value} {n : Nat} {cs : Nat → Value} (h : Own w base e sz v n cs) {cb nb : Nat} (h1 : cb < base) (h2 : nb < base) : ∀ z, v.ownBlock = some z → ¬ (z = cb ∨ z = nb) := fun z hz e => by
  have := (h.lt z hz).1
  rcases e with e | e <;> omega
set_option maxRecDepth 20000 in
set_option maxHeartbeats 1600000 in
theorem taken_any {w : World} {pg cb nb Y W B S n : Nat} {cnt : Nat → Nat} {num : Nat → Int} (h : PoolAt w pg cb nb Y W B S cnt num) (hn : n ≤ freeN cnt B) :
    Calls Try.prog 25 #[.pointer (some ⟨pg, 0, none⟩), .int .i64 (n : Int)] w fun e w' => ∃ v G cnt' num', e = .returned (.tuple #[v, .bool true]) ∧ Own w' w.heap.size 3 1 v n (fun j => .int .i64 (G j : Int)) ∧ PoolAt w' pg cb nb Y W B S cnt' num' ∧ Tkn B cnt cnt' G n ∧ Chg w w' (fun x => x = cb ∨ x = nb) := by
  have hnB := freeN_le cnt B
  have hB := h.hB
  have hcb : cb < w.heap.size := h.cnts.lt
  have hnb : nb < w.heap.size := h.nums.lt
  obtain ⟨q, nn, T, G0⟩ := h.geo
  have H0 := hidd h
  have H0p : Hid (pg < w.heap.size) := h.row.lt
  clear h
  go_enter Try.func25, Try.ntmps25
  go_wp2
  go_loopw [6, 7, 8, 9] (fun vl vi _ _ wr => ∃ (k : Nat) (G : Nat → Nat) (cnt' : Nat → Nat) (num' : Nat → Int), k ≤ n ∧ vi = .int .i64 (k : Int) ∧ Own wr w.heap.size 3 1 vl k (fun j => .int .i64 (G j : Int)) ∧ Hid (PoolAt wr pg cb nb Y W B S cnt' num' ∧ Tkn B cnt cnt' G k ∧ Chg w wr (fun x => x = cb ∨ x = nb))) (fun _ vi _ _ _ => n - (intOf vi).toNat)
  case atStart => exact ⟨0, fun _ => 0, cnt, num, by omega, rfl, own_nil _ _ _ _ _, H0.out, tkn_zero _ _ _, Chg.refl _ _⟩
  case round =>
    clear H0
    obtain ⟨k, G, cnt', num', hk, rfl, hown, H⟩ := hrel
    by_cases hlt : k < n
    · obtain ⟨b, hbB, hb0, hbl⟩ := low_free (cnt := cnt') (B := B) (by have := H.out.2.1.free; omega)
      have HT := hidd (take_hit H.out.1 G0 hbB hb0 hbl)
      have hGk : (putG G k b k : Int) = (b : Int) := by unfold putG; rw [if_pos rfl]
      have hown1 := hown.congr (cs' := fun j => .int .i64 (putG G k b j : Int)) (fun j hj => by
        unfold putG
        rw [if_neg (by omega)])
      have hsz := H.out.2.2.size
      have hlo := own_off hown hcb hnb
      have HB := hidd (And.intro hbB hb0)
      clear hown hbB hb0 hbl
      go_wp2_with (first
        | (go_at_call 17; with_reducible refine HT.out.mono ?_; rintro e w5 ⟨rfl, P5, c5⟩; have ow5 := hown1.chg c5 hlo; have s5 := c5.size; have HP5 := hidd (And.intro P5 c5); clear P5 c5)
        | (at_builtin; refine wpList_app1 _ rfl _ _ 22 rfl w.heap.size 3 (.int .i64 0) 8 Try.underlying22 infoI rfl _ k (fun j => .int .i64 (putG G k b j : Int)) rfl (ow5.kept (fresh_alloc _ _)) _ 1 rfl (new_int _ _ hGk) rfl (by omega) (by omega) (by simp; omega) ?_))
      intro v6 w6 ow6 ap6
      have HA := hidd ap6
      have HO5 := hidd ow5
      clear ap6 hown1 ow5 hGk
      go_wp2
      go_roundw
      case rel =>
        refine ⟨k + 1, putG G k b, _, _, by omega, by go_num, ow6, HP5.out.1.chg (Chg.pre (fresh_alloc _ _) (Chg.of_app HA.out)) ?_ ?_ ?_, H.out.2.1.step HB.out.1 HB.out.2, ((H.out.2.2.trans HP5.out.2 (fun _ _ e => e)).post (fresh_alloc _ _)).trans (Chg.of_app HA.out) (fun x hx e => ?_)⟩
        · intro e; have := (HO5.out.lt _ e).1; have := H0p.out; omega
        · intro e; have := (HO5.out.lt _ e).1; omega
        · intro e; have := (HO5.out.lt _ e).1; omega
        · have := (HO5.out.lt _ e).1; omega
      case measure => simp [intOf]; omega
    · obtain rfl : n = k := by omega
      go_wp2
      go_ret2
      exact ⟨_, G, cnt', num', rfl, hown, H.out⟩
end Go.Proofs.Ytaalinlggjimcaa
namespace Go.Proofs.Ytaalinlggjimcaa
open Go.RowKit
/-! Keep, where all is known. -/
set_option maxRecDepth 100000 in
set_option maxHeartbeats 4000000 in
theorem keep_known {w : World} {c : Ca} {A : Nat → Prop} {L : List Nd} {N : Nat} (h : CacheAt w c A L N) (hN : N ≤ 4611686018427387904) {cb nb Y W S : Nat} {cnt : Nat → Nat} {num : Nat → Int} (hp : PoolAt w c.pg cb nb Y W c.B S cnt num)
    {to : Option Addr} {T cap : Nat} {t : Nat → Int} (ht : RdA w to 1 T cap (fun i => .int .i64 (t i))) (hfit : ∀ i, i < T → fits (t i)) {bo : Option Addr} {m bcap : Nat} {gn : Nat → Nat} (hb : RdA w bo 1 m bcap (fun i => .int .i64 (gn i : Int))) (hbo : bo = none → bcap = 0) (hbp : ∀ a, bo = some a → ∃ bb, a = ⟨bb, 0, none⟩)
    {n : Nat} (hn : n = T / c.S) (hnm : n ≤ m) (hnB : n ≤ c.B) (hblk : ∀ i, i < n → gn i < c.B) (hc0 : ∀ i, i < n → cnt (gn i) ≠ 0) (hk : ∀ k b o, Long c.C L (pcL t c.S n) k b o → k = n) :
    Calls Try.prog 12 #[.pointer (some ⟨c.C, 0, none⟩), .slice to T cap, .slice bo m bcap] w fun e w' => e = .returned (.int .i64 0) ∧ CacheAt w' c A (useL L (pcL t c.S n) (N + 1)) (N + 1) ∧ Chg w w' A := by
  obtain ⟨_, c1, _, _, _, c24, _⟩ := h.cells
  obtain ⟨hS1, hS2⟩ := h.well.hS
  obtain ⟨hB1, hB2⟩ := h.well.hB
  have hT : T ≤ 9223372036854775807 := by have := ht.le; have := ht.top; unfold maxLen at this; omega
  have hbc := hb.le
  have hbt : bcap ≤ 9223372036854775807 := by have := hb.top; unfold maxLen at this; omega
  have hnS : n * c.S ≤ T := by rw [hn]; exact Nat.div_mul_le_self T c.S
  have hz : ¬ (c.S : Int) = 0 := by omega
  have hq : ((T : Int).tdiv (c.S : Int)) = (n : Int) := by rw [Int.tdiv_eq_ediv_of_nonneg (by omega), hn]; push_cast; rfl
  have hdiv : n ≤ T := by rw [hn]; exact Nat.div_le_self _ _
  have HIN : Hid (Calls Try.prog 39 #[.pointer (some ⟨c.C, 0, none⟩), .slice bo n bcap] w fun e w' => e = .returned (.bool true) ∧ w' = w) := by
    refine (areInUse_any h hp (bo := bo) (m := n) (cap := bcap) (g := fun i => (gn i : Int)) ⟨by omega, hb.top, fun hn0 => ?_⟩).mono ?_
    · obtain ⟨b, off, e, hc⟩ := hb.one (by omega)
      exact ⟨b, off, e, fun j hj => by have := hc j (by omega); simpa using this⟩
    · rintro e w' ⟨⟨r, rfl, hr⟩, hw⟩
      refine ⟨?_, hw⟩
      rw [hr.2 (fun i hi => by rw [cntI_nat cnt (hblk i hi)]; exact hc0 i hi)]
  have HCUT := hidd (cut_any (most := n) ht h.well.hS (by omega) (show n = min (T / c.S) n by rw [← hn]; omega))
  have HNB : Hid (∀ (Z : World) (ao : Option Addr) (cc : Nat), cc ≤ bcap → Below w.heap.size w Z → Calls Try.prog 40 #[.pointer (some ⟨c.C, 0, none⟩), .slice ao 0 cc] Z fun e w' => e = .returned (.bool true) ∧ Below Z.heap.size Z w') := fun Z ao cc hcc hZ => by
    refine (areNobodys_any (h.fresh hZ) (bo := ao) (m := 0) (cap := cc) (g := fun i => gn i) ⟨by omega, by unfold maxLen; omega, fun h0 => absurd h0 (by omega)⟩ (fun i hi => absurd hi (by omega))).mono ?_
    rintro e w' ⟨⟨r, rfl, hr⟩, hf⟩
    exact ⟨by rw [hr.2 ⟨fun i hi => absurd hi (by omega), fun i j _ hj => absurd hj (by omega)⟩], hf⟩
  have HH := hidd h
  have HK := hidd hk
  have HF := hidd hfit
  have d1 : ¬ (m : Int) < (n : Int) := by omega
  have d2 : ¬ (c.B : Int) < (n : Int) := by omega
  have e1 : decide ((m : Int) < (n : Int)) = false := by simpa using d1
  have e2 : decide ((c.B : Int) < (n : Int)) = false := by simpa using d2
  have k2 : (n : Int) ≤ (bcap : Int) := by omega
  have k0 : (0 : Int) ≤ (n : Int) := by omega
  clear h hp hk hn ht
  cases bo with
  | none =>
    have hb0 : bcap = 0 := hbo rfl
    obtain rfl : m = 0 := by omega
    obtain rfl : bcap = 0 := hb0
    obtain rfl : n = 0 := by omega
    go_enter Try.func12, Try.ntmps12
    go_wp2_with (first
      | (go_at_call 39; refine HIN.out.mono ?_; rintro e w9 ⟨rfl, h9⟩; rw [h9]; clear h9)
      | (go_at_call 36; refine HCUT.out.mono ?_; rintro e w5 ⟨g5, rfl, r5, hg5, f5⟩; have LGC := longest_any (HH.out.fresh f5) (pcL_len t c.S 0).symm (pcL_text HF.out hnS r5) (by omega) ⟨Nat.le_refl _, by unfold maxLen; omega⟩)
      | (go_at_call 35; refine LGC.mono ?_; rintro e w6 ⟨⟨k, b, o, rfl, hkn, hadr, hno⟩, f6⟩; obtain rfl : k = 0 := HK.out k b o ⟨by rw [pcL_len]; exact hkn, hadr, fun j h1 h2 => hno j h1 (by rw [pcL_len] at h2; exact h2)⟩; have f56 := fresh_trans f5 f6; obtain ⟨a0, _, _⟩ := (HH.out.fresh f56).adr hadr; rw [List.length_take, pcL_len, Nat.min_self] at a0; have HNB6 := HNB.out w6; have HAD := hidd hadr; clear hadr hno)
      | (go_at_call 40; refine (HNB6 _ _ (by omega) f56).mono ?_; rintro e w7 ⟨rfl, f7⟩; have a07 := fresh_cell f7 a0; have HUSE := hidd (use_any (HH.out.fresh (fresh_trans f56 f7)) hN HAD.out)))
    clear HIN HCUT LGC HNB6 HNB a0 r5
    go_loopw [9, 10] (fun v vi wr => v = .pointer (some ⟨b, o, none⟩) ∧ vi = .int .i64 0 ∧ wr = w7) (fun _ _ _ => 0)
    case atStart => exact ⟨rfl, rfl, rfl⟩
    case round =>
      obtain ⟨rfl, rfl, rfl⟩ := hrel
      go_wp2_with (go_at_call 37; refine HUSE.out.mono ?_; rintro e w8 ⟨rfl, C8, G8⟩)
      go_ret
      refine ⟨rfl, ?_, Chg.pre (fresh_trans f56 f7) G8⟩
      have : (pcL t c.S 0).take 0 = pcL t c.S 0 := by rw [pcL_take _ _ (Nat.le_refl _)]
      rw [this] at C8
      exact C8
  | some a =>
    obtain ⟨bb, rfl⟩ := hbp a rfl
    by_cases k3 : bcap = n
    · obtain rfl : n = bcap := k3.symm
      go_enter Try.func12, Try.ntmps12
      go_wp2_with (first
        | (go_at_call 39; refine HIN.out.mono ?_; rintro e w9 ⟨rfl, h9⟩; rw [h9]; clear h9)
        | (go_at_call 36; refine HCUT.out.mono ?_; rintro e w5 ⟨g5, rfl, r5, hg5, f5⟩; have LGC := longest_any (HH.out.fresh f5) (pcL_len t c.S n).symm (pcL_text HF.out hnS r5) (by omega) ⟨Nat.le_refl _, by unfold maxLen; omega⟩)
        | (go_at_call 35; refine LGC.mono ?_; rintro e w6 ⟨⟨k, b, o, rfl, hkn, hadr, hno⟩, f6⟩; obtain rfl : k = n := HK.out k b o ⟨by rw [pcL_len]; exact hkn, hadr, fun j h1 h2 => hno j h1 (by rw [pcL_len] at h2; exact h2)⟩; have f56 := fresh_trans f5 f6; obtain ⟨a0, _, _⟩ := (HH.out.fresh f56).adr hadr; rw [List.length_take, pcL_len, Nat.min_self] at a0; have HNB6 := HNB.out w6; have HAD := hidd hadr; clear hadr hno)
        | (go_at_call 40; refine (HNB6 _ _ (by omega) f56).mono ?_; rintro e w7 ⟨rfl, f7⟩; have a07 := fresh_cell f7 a0; have HUSE := hidd (use_any (HH.out.fresh (fresh_trans f56 f7)) hN HAD.out)))
      clear HIN HCUT LGC HNB6 HNB a0 r5
      go_loopw [9, 10] (fun v vi wr => v = .pointer (some ⟨b, o, none⟩) ∧ vi = .int .i64 (k : Int) ∧ wr = w7) (fun _ _ _ => 0)
      case atStart => exact ⟨rfl, rfl, rfl⟩
      case round =>
        obtain ⟨rfl, rfl, rfl⟩ := hrel
        go_wp2_with (go_at_call 37; refine HUSE.out.mono ?_; rintro e w8 ⟨rfl, C8, G8⟩)
        go_ret
        refine ⟨rfl, ?_, Chg.pre (fresh_trans f56 f7) G8⟩
        have : (pcL t c.S k).take k = pcL t c.S k := by rw [pcL_take _ _ (Nat.le_refl _)]
        rw [this] at C8
        exact C8
    · have k4 : ¬ n = bcap := fun e => k3 e.symm
      go_enter Try.func12, Try.ntmps12
      go_wp2_with (first
        | (go_at_call 39; refine HIN.out.mono ?_; rintro e w9 ⟨rfl, h9⟩; rw [h9]; clear h9)
        | (go_at_call 36; refine HCUT.out.mono ?_; rintro e w5 ⟨g5, rfl, r5, hg5, f5⟩; have LGC := longest_any (HH.out.fresh f5) (pcL_len t c.S n).symm (pcL_text HF.out hnS r5) (by omega) ⟨Nat.le_refl _, by unfold maxLen; omega⟩)
        | (go_at_call 35; refine LGC.mono ?_; rintro e w6 ⟨⟨k, b, o, rfl, hkn, hadr, hno⟩, f6⟩; obtain rfl : k = n := HK.out k b o ⟨by rw [pcL_len]; exact hkn, hadr, fun j h1 h2 => hno j h1 (by rw [pcL_len] at h2; exact h2)⟩; have f56 := fresh_trans f5 f6; obtain ⟨a0, _, _⟩ := (HH.out.fresh f56).adr hadr; rw [List.length_take, pcL_len, Nat.min_self] at a0; have HNB6 := HNB.out w6; have HAD := hidd hadr; clear hadr hno)
        | (go_at_call 40; refine (HNB6 _ _ (by omega) f56).mono ?_; rintro e w7 ⟨rfl, f7⟩; have a07 := fresh_cell f7 a0; have HUSE := hidd (use_any (HH.out.fresh (fresh_trans f56 f7)) hN HAD.out)))
      clear HIN HCUT LGC HNB6 HNB a0 r5
      go_loopw [9, 10] (fun v vi wr => v = .pointer (some ⟨b, o, none⟩) ∧ vi = .int .i64 (k : Int) ∧ wr = w7) (fun _ _ _ => 0)
      case atStart => exact ⟨rfl, rfl, rfl⟩
      case round =>
        obtain ⟨rfl, rfl, rfl⟩ := hrel
        go_wp2_with (go_at_call 37; refine HUSE.out.mono ?_; rintro e w8 ⟨rfl, C8, G8⟩)
        go_ret
        refine ⟨rfl, ?_, Chg.pre (fresh_trans f56 f7) G8⟩
        have : (pcL t c.S k).take k = pcL t c.S k := by rw [pcL_take _ _ (Nat.le_refl _)]
        rw [this] at C8
        exact C8
end Go.Proofs.Ytaalinlggjimcaa
namespace Go.Proofs.Ytaalinlggjimcaa
open Go.RowKit
/-! PrefixFinds: New where it answers an error, CopyInts, Keep in one, counts. -/
set_option maxHeartbeats 400000 in
theorem isMeasure_out (n m : Int) (w : World) (h : n < 1 ∨ m < n) : Calls Try.prog 44 #[.int .i64 n, .int .i64 m] w fun e w' => e = .returned (.bool false) ∧ w' = w := by
  by_cases h1 : n < 1
  · go_enter Try.func44, Try.ntmps44
    go_wp2
    go_ret
    exact ⟨rfl, rfl⟩
  · have a2 : ¬ n ≤ m := by omega
    have a3 : m < n := by omega
    go_enter Try.func44, Try.ntmps44
    go_wp2
    go_ret
    exact ⟨rfl, rfl⟩
set_option maxHeartbeats 1600000 in
theorem new_bad (w : World) (a : Int) (h : a < 1 ∨ 16 < a) : Calls Try.prog 16 #[.int .i64 1, .int .i64 1, .int .i64 256, .int .i64 a] w fun e w' => e = .returned (.tuple #[.pointer none, .int .i64 1]) ∧ w' = w := by
  have HA : Hid (Calls Try.prog 44 #[.int .i64 1, .int .i64 4] w fun e w' => e = .returned (.bool true) ∧ w' = w) := isMeasure_in 1 4 w (by omega)
  have HB : Hid (Calls Try.prog 44 #[.int .i64 1, .int .i64 32] w fun e w' => e = .returned (.bool true) ∧ w' = w) := isMeasure_in 1 32 w (by omega)
  have HC : Hid (Calls Try.prog 44 #[.int .i64 256, .int .i64 256] w fun e w' => e = .returned (.bool true) ∧ w' = w) := isMeasure_in 256 256 w (by omega)
  have HD := hidd (isMeasure_out a 16 w h)
  clear h
  go_enter Try.func16, Try.ntmps16
  go_wp2_with (go_at_call 44; first
    | (with_reducible refine HD.out.mono ?_; rintro e w9 ⟨rfl, h9⟩; rw [h9]; clear h9)
    | (with_reducible refine HA.out.mono ?_; rintro e w9 ⟨rfl, h9⟩; rw [h9]; clear h9)
    | (with_reducible refine HB.out.mono ?_; rintro e w9 ⟨rfl, h9⟩; rw [h9]; clear h9)
    | (with_reducible refine HC.out.mono ?_; rintro e w9 ⟨rfl, h9⟩; rw [h9]; clear h9))
  go_ret2
  exact ⟨rfl, rfl⟩
theorem new_256 {S : Nat} (w : World) (hS : 1 ≤ S ∧ S ≤ 16) : Calls Try.prog 16 #[.int .i64 1, .int .i64 1, .int .i64 256, .int .i64 (S : Int)] w fun e w' => ∃ g cb nb, e = .returned (.tuple #[.pointer (some ⟨g, 0, none⟩), .int .i64 0]) ∧ PoolAt w' g cb nb 1 1 256 S (fun _ => 0) (fun _ => 0) ∧ (w.heap.size ≤ g ∧ w.heap.size ≤ cb ∧ w.heap.size ≤ nb) ∧ Below w.heap.size w w' :=
  new_any (L := 1) (W := 1) (B := 256) (S := S) w (by omega) (by omega) (by omega) hS
set_option maxRecDepth 20000 in
set_option maxHeartbeats 1600000 in
theorem copyI_any {w : World} {ao : Option Addr} {n cap : Nat} {f : Nat → Int} (h : RdA w ao 1 n cap (fun i => .int .i64 (f i))) (hn : n ≤ 17592186043904) :
    Calls Try.prog 21 #[.slice ao n cap] w fun e w' => ∃ u uc, e = .returned (.slice u n uc) ∧ RdA w' u 1 n uc (fun i => .int .i64 (f i)) ∧ Below w.heap.size w w' := by
  have hn2 : n ≤ 9223372036854775807 := by omega
  go_enter Try.func21, Try.ntmps21
  go_wp2
  go_loopw [3, 4] (fun v i wr => ∃ k : Nat, k ≤ n ∧ i = .int .i64 k ∧ Own wr w.heap.size 3 1 v k (fun j => .int .i64 (f j)) ∧ Below w.heap.size w wr) (fun _ i _ => n - (intOf i).toNat)
  case atStart => exact ⟨0, by omega, rfl, own_nil _ _ _ _ _, Below.refl _ _⟩
  case round =>
    obtain ⟨k, hk, rfl, hown, hf⟩ := hrel
    have hsz := hf.size
    by_cases hlt : k < n
    · obtain ⟨b1, o1, rfl, h1⟩ := (h.fresh hf).one (by omega)
      have d := h1 k hlt
      have hle := h.le
      have HX : Hid (∀ (w0 : World) (t : TypeId), (w0.alloc (.cells #[.int .i64 (f k)] t)).cell? ⟨w0.heap.size, 0, none⟩ = some ((fun j => Value.int .i64 (f j)) k)) := fun w0 t => new_cell _ _ _
      clear h1
      generalize f k = y at d HX
      go_wp2_with (at_builtin; refine wpList_app1 _ rfl _ _ 22 rfl w.heap.size 3 (.int .i64 0) 8 Try.underlying22 infoI rfl _ k (fun j => .int .i64 (f j)) rfl (hown.kept (fresh_alloc _ _)) _ 1 rfl (HX.out _ _) rfl (by omega) (by omega) (by simp; omega) ?_)
      intro v' w1 hown' happ
      have hf1 := happ.below (hf.alloc hsz _) (hown.kept (fresh_alloc _ _)) (Nat.le_refl _) (by simp; omega)
      clear happ hown
      go_wp2
      go_roundw
      case rel => exact ⟨k + 1, by omega, by go_num, hown', hf1⟩
      case measure => simp [intOf]; omega
    · obtain rfl : k = n := by omega
      obtain ⟨u, uc, rfl, hu⟩ := hown.rd
      go_wp2
      go_ret
      exact ⟨u, uc, rfl, hu, hf⟩
theorem Long.uniq {C : Nat} {L : List Nd} {P : List (List Int)} {k b o k' b' o' : Nat} (h : Long C L P k b o) (h' : Long C L P k' b' o') : k = k' := by
  have key : ∀ {k b o k' b' o'}, Long C L P k b o → Long C L P k' b' o' → ¬ k < k' := fun {k b o k' b' o'} h h' hlt => by
    rcases h'.adr with ⟨e, _⟩ | ⟨x, hx, e, _⟩
    · have := congrArg List.length e
      rw [List.length_take, Nat.min_eq_left h'.le] at this
      simp at this
      omega
    · exact h.no k' hlt h'.le x hx e
  have h1 := key h h'
  have h2 := key h' h
  omega
/-- a list of the call's own: nothing, or a row -/
theorem Own.list {w : World} {base : Nat} {v : Value} {n : Nat} {cs : Nat → Value} (h : Own w base 3 1 v n cs) : (v = .slice none 0 0 ∧ n = 0) ∨ ∃ g cap, v = .slice (some ⟨g, 0, none⟩) n cap ∧ v.ownBlock = some g ∧ RdA w (some ⟨g, 0, none⟩) 1 n cap cs := by
  obtain ⟨ao, cap, e, hrd⟩ := h.rd
  rcases h.2 with ⟨rfl, rfl⟩ | ⟨g, cap', cur, rfl, _⟩
  · exact .inl ⟨rfl, rfl⟩
  · injection e with e1 e2 e3
    subst e1 e3
    exact .inr ⟨g, cap', rfl, rfl, hrd⟩
theorem keep_any {w : World} {c : Ca} {A : Nat → Prop} {L : List Nd} {N : Nat} (h : CacheAt w c A L N) (hN : N ≤ 4611686018427387904) {cb nb Y W S : Nat} {cnt : Nat → Nat} {num : Nat → Int} (hp : PoolAt w c.pg cb nb Y W c.B S cnt num) (o1 : ¬ A c.pg) (o2 : ¬ A cb) (o3 : ¬ A nb)
    {to : Option Addr} {T cap : Nat} {t : Nat → Int} (ht : RdA w to 1 T cap (fun i => .int .i64 (t i))) (hfit : ∀ i, i < T → fits (t i)) {n : Nat} {v : Value} {base : Nat} {gn : Nat → Nat} (hb : Own w base 3 1 v n (fun i => .int .i64 (gn i : Int))) (ob : ∀ z, v.ownBlock = some z → ¬ A z ∧ z ≠ cb)
    (hn : n = T / c.S) (hnB : n ≤ c.B) (hblk : ∀ i, i < n → gn i < c.B) (hc : ∀ i, i < n → cnt (gn i) = 1) (hno : ∀ i, i < n → ∀ x ∈ L, x.blk ≠ gn i) (hinj : ∀ i j, i < j → j < n → gn i ≠ gn j) {k0 b0 o0 : Nat} (hl : Long c.C L (pcL t c.S n) k0 b0 o0) :
    Calls Try.prog 12 #[.pointer (some ⟨c.C, 0, none⟩), .slice to T cap, v] w fun e w' => e = .returned (.int .i64 0) ∧ ∃ A' L' news, Kept w w' c A L N cb nb Y W S cnt num (pcL t c.S n) gn k0 A' L' news := by
  by_cases hk : k0 = n
  · subst hk
    have key : ∀ {bo : Option Addr} {bcap : Nat}, v = .slice bo k0 bcap → RdA w bo 1 k0 bcap (fun i => .int .i64 (gn i : Int)) → (bo = none → bcap = 0) → (∀ a, bo = some a → ∃ bb, a = ⟨bb, 0, none⟩) → Calls Try.prog 12 #[.pointer (some ⟨c.C, 0, none⟩), .slice to T cap, v] w fun e w' => e = .returned (.int .i64 0) ∧ ∃ A' L' news, Kept w w' c A L N cb nb Y W S cnt num (pcL t c.S k0) gn k0 A' L' news := by
      rintro bo bcap rfl hr h1 h2
      refine (keep_known h hN hp ht hfit hr h1 h2 hn (Nat.le_refl _) hnB hblk (fun i hi => by rw [hc i hi]; decide) (fun k b o hl' => hl'.uniq hl)).mono ?_
      rintro e w' ⟨rfl, hC, hch⟩
      have e0 : (pcL t c.S k0).length - k0 = 0 := by rw [pcL_len]; omega
      refine ⟨rfl, A, L, [], ⟨by rw [e0]; exact ⟨by simp, rfl, fun i hi => absurd hi (by omega)⟩, hC, ?_, hch.imp (fun z _ e => Or.inl e), fun _ h => h, fun _ h => .inl h⟩⟩
      rw [e0]
      exact hp.chg hch o1 o2 o3
    rcases hb.list with ⟨e1, e2⟩ | ⟨g, bcap, e1, e2, hr⟩
    · refine key (bo := none) (bcap := 0) (by rw [e2]; exact e1) (by rw [e2]; exact ⟨Nat.le_refl _, Nat.zero_le _, fun h => absurd h (by omega)⟩) (fun _ => rfl) (fun a e => by cases e)
    · exact key e1 hr (fun e => by cases e) (fun a e => by cases e; exact ⟨g, rfl⟩)
  · have hle := hl.le
    rw [pcL_len] at hle
    rcases hb.list with ⟨e1, e2⟩ | ⟨g, bcap, e1, e2, hr⟩
    · omega
    · rw [e1]
      refine (keep_ok h hN hp o1 o2 o3 ht hfit hr (ob g e2).1 (ob g e2).2 hn (Nat.le_refl _) hnB hblk (fun i hi => by rw [hc i hi]; decide) (fun i hi => by rw [hc i hi]; decide) (fun k b o hl' => ?_)).mono ?_
      · have := hl'.uniq hl
        subst this
        have := hr.le
        exact ⟨by omega, ⟨fun i hi x hx => hno (k + i) (by omega) x hx, fun i j h1 h2 => hinj _ _ (by omega) (by omega)⟩⟩
      · rintro e w' ⟨k, b, o, A', L', news, rfl, hl', hK⟩
        have := hl'.uniq hl
        subst this
        exact ⟨rfl, A', L', news, hK⟩
end Go.Proofs.Ytaalinlggjimcaa
