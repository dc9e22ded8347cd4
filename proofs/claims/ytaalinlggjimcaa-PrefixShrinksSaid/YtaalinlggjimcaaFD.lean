import Derived.Test.YtaalinlggjimcaaFC
namespace Go.Proofs.Ytaalinlggjimcaa
open Go.RowKit
/-! taken: blocks, each a free one, none twice. -/
theorem low_free {cnt : Nat → Nat} : ∀ {B : Nat}, 0 < freeN cnt B → ∃ b, b < B ∧ cnt b = 0 ∧ ∀ j, j < b → cnt j ≠ 0
  | 0, h => by simp [freeN] at h
  | B + 1, h => by
    by_cases e : 0 < freeN cnt B
    · obtain ⟨b, h1, h2, h3⟩ := low_free e
      exact ⟨b, by omega, h2, h3⟩
    · obtain ⟨b, h1, h2⟩ := freeN_pos h
      have hn : ∀ j, j < B → cnt j ≠ 0 := fun j hj e0 => by
        have h4 := freeN_upd (cnt := cnt) (b := j) 1 hj
        rw [if_pos e0] at h4
        simp at h4
        omega
      have : b = B := by
        by_cases hb : b < B
        · exact absurd h2 (hn b hb)
        · omega
      exact ⟨b, h1, h2, fun j hj => hn j (by omega)⟩
def putG (G : Nat → Nat) (k b : Nat) : Nat → Nat := fun j => if j = k then b else G j
structure Tkn (B : Nat) (cnt cnt' : Nat → Nat) (G : Nat → Nat) (k : Nat) : Prop where
  lt : ∀ j, j < k → G j < B
  was : ∀ j, j < k → cnt (G j) = 0
  inj : ∀ i j, i < j → j < k → G i ≠ G j
  now : ∀ j, j < k → cnt' (G j) = 1
  oth : ∀ b, (∀ j, j < k → G j ≠ b) → cnt' b = cnt b
  free : freeN cnt' B + k = freeN cnt B
theorem tkn_zero (B : Nat) (cnt : Nat → Nat) (G : Nat → Nat) : Tkn B cnt cnt G 0 := ⟨fun j h => absurd h (by omega), fun j h => absurd h (by omega), fun i j _ h => absurd h (by omega), fun j h => absurd h (by omega), fun _ _ => rfl, rfl⟩
theorem Tkn.step {B : Nat} {cnt cnt' : Nat → Nat} {G : Nat → Nat} {k : Nat} (h : Tkn B cnt cnt' G k) {b : Nat} (hb : b < B) (h0 : cnt' b = 0) : Tkn B cnt (updN cnt' b 1) (putG G k b) (k + 1) := by
  have hne : ∀ j, j < k → G j ≠ b := fun j hj e => by have := h.now j hj; rw [e, h0] at this; omega
  have hG : ∀ j, j < k → putG G k b j = G j := fun j hj => if_neg (by omega)
  have hk : putG G k b k = b := if_pos rfl
  refine ⟨fun j hj => ?_, fun j hj => ?_, fun i j h1 h2 => ?_, fun j hj => ?_, fun x hx => ?_, ?_⟩
  · by_cases e : j = k
    · rw [e, hk]; exact hb
    · rw [hG j (by omega)]; exact h.lt j (by omega)
  · by_cases e : j = k
    · rw [e, hk, ← h.oth b hne]; exact h0
    · rw [hG j (by omega)]; exact h.was j (by omega)
  · by_cases e : j = k
    · rw [e, hk, hG i (by omega)]; exact hne i (by omega)
    · rw [hG i (by omega), hG j (by omega)]; exact h.inj i j h1 (by omega)
  · by_cases e : j = k
    · rw [e, hk, updN_at]
    · rw [hG j (by omega), updN_ne _ _ (hne j (by omega))]; exact h.now j (by omega)
  · have e : x ≠ b := fun e => by have := hx k (by omega); rw [hk] at this; exact this e.symm
    rw [updN_ne _ _ e]
    exact h.oth x (fun j hj => by have := hx j (by omega); rw [hG j hj] at this; exact this)
  · have := freeN_take (x := 1) hb h0 (by decide)
    have := h.free
    omega
theorem own_off {w : World} {base : Nat} {e : TypeId} {sz : Nat} {v : Value} {n : Nat} {cs : Nat → Value} (h : Own w base e sz v n cs) {cb nb : Nat} (h1 : cb < base) (h2 : nb < base) : ∀ z, v.ownBlock = some z → ¬ (z = cb ∨ z = nb) := fun z hz e => by
  have := (h.lt z hz).1
  rcases e with e | e <;> omega
set_option maxRecDepth 20000 in
set_option maxHeartbeats 1600000 in
theorem taken_any {w : World} {pg cb nb Y W B S n : Nat} {cnt : Nat → Nat} {num : Nat → Int} (h : PoolAt w pg cb nb Y W B S cnt num) (hn : n ≤ freeN cnt B) :
    Calls Try.prog 25 #[.pointer (some ⟨pg, 0, none⟩), .int .i64 (n : Int)] w fun e w' => ∃ v G cnt' num', e = .returned (.tuple #[v, .bool true]) ∧ Own w' w.heap.size 3 1 v n (fun j => .int .i64 (G j : Int)) ∧ PoolAt w' pg cb nb Y W B S cnt' num' ∧ Tkn B cnt cnt' G n ∧ Chg w w' (fun x => x = cb ∨ x = nb) := by
  have hnB := freeN_le cnt B
  have hB := h.hB
  have hcb : cb < w.heap.size := h.cnts.lt
  have hnb : nb < w.heap.size := h.nums.lt
  obtain ⟨q, nn, T, G0⟩ := h.geo
  have H0 := hidd h
  have H0p : Hid (pg < w.heap.size) := h.row.lt
  clear h
  go_enter Try.func25, Try.ntmps25
  go_wp2
  go_loopw [6, 7, 8, 9] (fun vl vi _ _ wr => ∃ (k : Nat) (G : Nat → Nat) (cnt' : Nat → Nat) (num' : Nat → Int), k ≤ n ∧ vi = .int .i64 (k : Int) ∧ Own wr w.heap.size 3 1 vl k (fun j => .int .i64 (G j : Int)) ∧ Hid (PoolAt wr pg cb nb Y W B S cnt' num' ∧ Tkn B cnt cnt' G k ∧ Chg w wr (fun x => x = cb ∨ x = nb))) (fun _ vi _ _ _ => n - (intOf vi).toNat)
  case atStart => exact ⟨0, fun _ => 0, cnt, num, by omega, rfl, own_nil _ _ _ _ _, H0.out, tkn_zero _ _ _, Chg.refl _ _⟩
  case round =>
    clear H0
    obtain ⟨k, G, cnt', num', hk, rfl, hown, H⟩ := hrel
    by_cases hlt : k < n
    · obtain ⟨b, hbB, hb0, hbl⟩ := low_free (cnt := cnt') (B := B) (by have := H.out.2.1.free; omega)
      have HT := hidd (take_hit H.out.1 G0 hbB hb0 hbl)
      have hGk : (putG G k b k : Int) = (b : Int) := by unfold putG; rw [if_pos rfl]
      have hown1 := hown.congr (cs' := fun j => .int .i64 (putG G k b j : Int)) (fun j hj => by
        unfold putG
        rw [if_neg (by omega)])
      have hsz := H.out.2.2.size
      have hlo := own_off hown hcb hnb
      have HB := hidd (And.intro hbB hb0)
      clear hown hbB hb0 hbl
      go_wp2_with (first
        | (go_at_call 17; with_reducible refine HT.out.mono ?_; rintro e w5 ⟨rfl, P5, c5⟩; have ow5 := hown1.chg c5 hlo; have s5 := c5.size; have HP5 := hidd (And.intro P5 c5); clear P5 c5)
        | (at_builtin; refine wpList_app1 _ rfl _ _ 22 rfl w.heap.size 3 (.int .i64 0) 8 Try.underlying22 infoI rfl _ k (fun j => .int .i64 (putG G k b j : Int)) rfl (ow5.kept (fresh_alloc _ _)) _ 1 rfl (new_int _ _ hGk) rfl (by omega) (by omega) (by simp; omega) ?_))
      intro v6 w6 ow6 ap6
      have HA := hidd ap6
      have HO5 := hidd ow5
      clear ap6 hown1 ow5 hGk
      go_wp2
      go_roundw
      case rel =>
        refine ⟨k + 1, putG G k b, _, _, by omega, by go_num, ow6, HP5.out.1.chg (Chg.pre (fresh_alloc _ _) (Chg.of_app HA.out)) ?_ ?_ ?_, H.out.2.1.step HB.out.1 HB.out.2, ((H.out.2.2.trans HP5.out.2 (fun _ _ e => e)).post (fresh_alloc _ _)).trans (Chg.of_app HA.out) (fun x hx e => ?_)⟩
        · intro e; have := (HO5.out.lt _ e).1; have := H0p.out; omega
        · intro e; have := (HO5.out.lt _ e).1; omega
        · intro e; have := (HO5.out.lt _ e).1; omega
        · have := (HO5.out.lt _ e).1; omega
      case measure => simp [intOf]; omega
    · obtain rfl : n = k := by omega
      go_wp2
      go_ret2
      exact ⟨_, G, cnt', num', rfl, hown, H.out⟩
end Go.Proofs.Ytaalinlggjimcaa
