import Derived.Test.YtbpldnlafilbbaaNgS
namespace Go.Proofs.Ytbpldnlafilbbaa
open Go.RowKit
/-! begun, works. -/
theorem Idx.cell0 {w : World} {X : Nat} {S : Nat → Prop} {most n : Nat} {tx : Nat → Int} {A : Nat → Nat} (h : Idx w X S most n tx A) : ∃ u c, w.cell? ⟨X, 0, none⟩ = some (.slice u n c) ∧ n ≤ 9223372036854775807 := by
  obtain ⟨M, Lb, tv, pv, hix⟩ := h.ex
  obtain ⟨u, cap, htv, hrd⟩ := hix.tok.rd
  have c0 := hix.cells.1
  rw [htv] at c0
  refine ⟨u, cap, c0, ?_⟩
  have := hrd.le
  have := hrd.top
  unfold maxLen at this
  omega
theorem idx_len {w : World} {X : Nat} {S : Nat → Prop} {most n : Nat} {tx : Nat → Int} {A : Nat → Nat} (h : Idx w X S most n tx A) : Calls Try.prog 17 #[.pointer (some ⟨X, 0, none⟩)] w fun e w' => e = .returned (.int .i64 n) ∧ w' = w := by
  obtain ⟨u, c, h0, _⟩ := h.cell0
  exact len_at h0
theorem own_blk {w : World} {base : Nat} {e : TypeId} {sz : Nat} {u : Option Addr} {m c n : Nat} {cs : Nat → Value} (h : Own w base e sz (.slice u m c) n cs) : ∀ b o, u = some ⟨b, o, none⟩ → base ≤ b ∧ b < w.heap.size := fun b o e => by
  subst e
  exact h.lt b rfl
theorem own_rda {w : World} {base : Nat} {e : TypeId} {sz : Nat} {u : Option Addr} {m c n : Nat} {cs : Nat → Value} (h : Own w base e sz (.slice u m c) n cs) : RdA w u sz n c cs := by
  obtain ⟨u', c', e', hr⟩ := h.rd
  cases e'
  exact hr
theorem apT_zero (f : Nat → Int) (t : Nat → Int) (j : Nat) : apT f 0 t j = t j := by
  have := apT_ge f 0 t j
  simpa using this
/-- an index of a text -/
structure Bg (w w' : World) (X : Nat) (S : Nat → Prop) (most n : Nat) (tx : Nat → Int) (A : Nat → Nat) : Prop where
  idx : Idx w' X S most n tx A
  off : ∀ b, S b → w.heap.size ≤ b
  low : Below w.heap.size w w'
theorem Idx.pos {w : World} {X : Nat} {S : Nat → Prop} {most n : Nat} {tx : Nat → Int} {A : Nat → Nat} (h : Idx w X S most n tx A) : S X := by
  obtain ⟨M, Lb, tv, pv, hix⟩ := h.ex
  exact hix.sX
set_option maxRecDepth 20000 in
set_option maxHeartbeats 1600000 in
theorem begun_any {w : World} {k : Nat} (hk : 1 ≤ k ∧ k ≤ 4) {ao : Option Addr} {n cap : Nat} {f : Nat → Int} (h : RdA w ao 1 n cap (fun i => .int .i64 (f i))) (hf : ∀ i, i < n → fits (f i)) (hn : n * 8 ≤ 140737488351232) :
    Calls Try.prog 10 #[.int .i64 k, .slice ao n cap] w fun e w' => ∃ X S A, e = .returned (.pointer (some ⟨X, 0, none⟩)) ∧ Bg w w' X S k n f A := by
  have HN := hidd (new_ok k hk w f (fun _ => 0))
  have HR := hidd h
  have HF := hidd hf
  clear h hf
  go_enter Try.func10, Try.ntmps10
  go_wp2_with (go_at_call 21; refine HN.out.mono ?_; rintro e w1 ⟨rfl, hi1, hb1⟩)
  have HI1 := hidd hi1
  have HB1 := hidd hb1
  have HCP := hidd (copyI_any (HR.out.fresh hb1) (by omega))
  clear hi1 hb1 HN
  go_wp2_with (go_at_call 23; refine HCP.out.mono ?_; rintro e w2 ⟨u, uc, rfl, ho2, hb2⟩)
  have HAP := hidd (append_any (HI1.out.fresh hb2) (own_rda ho2) (fun b o e _ hs => by have := (own_blk ho2 b o e).1; have := HI1.out.low b hs; omega) HF.out (by omega))
  have HB2 := hidd (HB1.out.trans (hb2.mono HB1.out.size))
  have hs2 := hb2.size
  clear ho2 hb2 HCP
  go_wp2_with (go_at_call 14; refine HAP.out.mono ?_; rintro e w3 ⟨rfl, S', A', hi3, hc3, hs1, hs3, _⟩)
  have hb3 := hc3.below HB2.out HB2.out.size (fun b hb => hb.1)
  have hs4 := HB2.out.size
  have HFIN : Hid (Bg w w3 (w.heap.size + 1) S' k n f A') := ⟨by have := hi3.text (ty := f) (fun j _ => apT_zero f f j); rw [Nat.zero_add] at this; exact this, fun b hb => by rcases hs3 b hb with h | h; exact h.1; omega, hb3⟩
  clear hi3 hc3 hs1 hs3 hb3 HAP HB1 HB2 HI1 HR HF
  go_wp2
  go_ret
  exact ⟨_, _, _, rfl, HFIN.out⟩
/-- the text 7 8 7 -/
def t787 : Nat → Int := fun j => if j = 1 then 8 else 7
theorem ear787 : ear t787 3 0 = some 1 := by
  unfold ear
  rw [lat_no (fun h => ?_), lat_yes ⟨Nat.le_refl _, rfl⟩]
  have := runV_inj h.2
  simp [rn, rc, t787] at this
theorem ear787' : ear t787 3 1 = none := by
  unfold ear
  rw [lat_no (fun h => ?_), lat_no (fun h => absurd h.1 (by omega))]
  · rfl
  · have := runV_inj h.2
    simp [rn, rc, t787] at this
theorem endL787 : endL t787 2 3 = 1 := by
  show erL t787 3 2 = 1
  rw [erL_none ear787', erL_some ear787]
theorem plL787 : plL t787 2 3 = [1] := by
  unfold plL
  rw [endL787, if_neg (by omega)]
  rw [dwn_no (fun h => ?_), dwn_yes ⟨Nat.le_refl _, rfl⟩]
  · rfl
  · have := runV_inj h.2
    simp [rn, rc, t787] at this
theorem prO787 : prO t787 2 3 1 1 = [(-1, 8)] := by
  unfold prO
  rw [plL787]
  rfl
theorem rd_lit3 (w : World) (t : TypeId) (f : Nat → Int) : RdA (w.alloc (.cells #[.int .i64 (f 0), .int .i64 (f 1), .int .i64 (f 2)] t)) (some ⟨w.heap.size, 0, none⟩) 1 3 3 (fun i => .int .i64 (f i)) := by
  refine ⟨by omega, by unfold maxLen; omega, fun _ => ⟨_, 0, rfl, fun j hj => ?_⟩⟩
  unfold World.cell?
  rw [World.alloc_heap_new]
  match j, hj with
  | 0, _ => rfl
  | 1, _ => rfl
  | 2, _ => rfl
set_option maxRecDepth 20000 in
set_option maxHeartbeats 1600000 in
theorem works_any (w : World) : Calls Try.prog 9 #[] w fun e w' => e = .returned (.bool true) ∧ Below w.heap.size w w' := by
  have HN := hidd (new_ok 2 (by omega) w t787 (fun _ => 0))
  go_enter Try.func9, Try.ntmps9
  go_wp2_with (go_at_call 21; refine HN.out.mono ?_; rintro e w1 ⟨rfl, hi1, hb1⟩)
  have HI1 := hidd (hi1.fresh (fresh_alloc w1 (.cells #[.int .i64 7, .int .i64 8, .int .i64 7] 3)))
  have HLO := hidd hi1.low
  have HB1 := hidd (hb1.trans ((fresh_alloc w1 (.cells #[.int .i64 7, .int .i64 8, .int .i64 7] 3)).mono hb1.size))
  have HAP := hidd (append_any HI1.out (rd_lit3 w1 3 t787) (fun b o e _ hs => by cases e; have := HLO.out _ hs; omega) (fun i _ => by unfold t787 fits; split <;> omega) (by omega))
  clear hi1 hb1 HN
  go_wp2_with (go_at_call 14; refine HAP.out.mono ?_; rintro e w3 ⟨rfl, S', A', hi3, hc3, hs1, hs3, _⟩)
  have HI3 : Hid (Idx w3 (w.heap.size + 1) S' 2 3 t787 A') := by have := hi3.text (ty := t787) (fun j _ => apT_zero t787 t787 j); exact this
  have HB3 := hidd (hc3.below HB1.out HB1.out.size (fun b hb => hb.1))
  have HPL := hidd (places_any HI3.out (by omega) 0)
  rw [plL787, show pkQ 0 [1] = [1] from rfl, show [1].length = 1 from rfl] at HPL
  clear hi3 hc3 hs1 hs3 HAP HI1 HLO HB1
  go_wp2_with (go_at_call 12; refine HPL.out.mono ?_; rintro e w4 ⟨u, c, rfl, ho4, hb4⟩)
  have HI4 := hidd (HI3.out.fresh hb4)
  have HB4 := hidd (HB3.out.trans (hb4.mono HB3.out.size))
  have HPR := hidd (propose_any HI4.out (by omega) 1 1 (by omega) (by omega))
  rw [prO787, show [((-1 : Int), (8 : Int))].length = 1 from rfl] at HPR
  have HO4 := hidd ho4
  clear ho4 hb4 HPL HI3 HB3
  go_wp2_with (go_at_call 13; refine HPR.out.mono ?_; rintro e w5 ⟨v5, rfl, ho5, hb5⟩)
  obtain ⟨u5, c5, rfl, hr5⟩ := ho5.rd
  obtain ⟨b1, o1, rfl, h1⟩ := (own_rda (HO4.out.kept hb5)).at_ (by omega)
  obtain ⟨b2, o2, rfl, h2⟩ := hr5.at_ (by omega)
  have c1 : w5.cell? ⟨b1, o1, none⟩ = some (.int .i64 1) := h1 0 (by omega)
  have d1 : w5.cell? ⟨b2, o2, none⟩ = some (.int .i64 (-1)) := h2 0 (by omega)
  have d2 : w5.cell? ⟨b2, o2 + 1, none⟩ = some (.int .i64 8) := h2 1 (by omega)
  have HLN := hidd (idx_len (HI4.out.fresh hb5))
  have HFIN := hidd (HB4.out.trans (hb5.mono HB4.out.size))
  clear h1 h2 hr5 ho5 hb5 HO4 HPR HI4 HB4
  go_wp2_with (go_at_call 17; refine HLN.out.mono ?_; rintro e w6 ⟨rfl, rfl⟩)
  go_ret
  exact ⟨rfl, HFIN.out⟩
end Go.Proofs.Ytbpldnlafilbbaa
