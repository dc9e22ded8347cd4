import Derived.Test.YteiocgciblogdabVJnd
import Derived.Deep.RegionHeld3
import Derived.Deep.DeepCutAuto
namespace Go.Proofs.Yteiocgciblogdab
open Go.RowKit
/-! The reference's Join. -/
theorem join_less {p q t : Int} : ∀ {l : List Int}, stands p q l → (joinL p q t l).length < l.length
  | [], h => by simp [stands] at h
  | [x], h => by simp [stands] at h
  | x :: y :: r, h => by
    rw [joinL]
    split
    · have := joinL_len p q t r
      simp; omega
    · rename_i hn
      rw [stands] at h
      have h' : stands p q (y :: r) := h.resolve_left hn
      have := join_less (t := t) h'
      simp at *; omega
def lenV : Value → Nat
  | .slice _ n _ => n
  | _ => 0
theorem VD.enc_next (d : VD) (L : List Int) {k i : Nat} (hki : k ≤ i) (hs : ∀ j, k ≤ j → j < i → ¬ stands (d.P j) (d.Q j) (d.encL L k)) : d.encL L i = d.encL L k := by
  obtain ⟨m, rfl⟩ : ∃ m, i = k + m := ⟨i - k, by omega⟩
  exact d.enc_skip L m (fun j h1 h2 => hs j h1 h2)
set_option maxRecDepth 20000 in
set_option maxHeartbeats 8000000 in
theorem rjoin_any {w : World} {d : VD} (hR : d.Right) {bo po ao : Option Addr} {cb cp ca : Nat} (hp : RdA w po 2 d.np cp (tcs d.P d.Q)) (L : List Int) (hL : L.length ≤ 1048576) (k0 : Nat) (hk0 : k0 ≤ d.np)
    (ha : RdA w ao 1 (d.encL L k0).length ca (fun j => .int .i64 ((d.encL L k0).getD j 0))) :
    Calls Try.prog 27 #[.agg #[.slice bo d.nb cb, .slice po d.np cp], .slice ao (d.encL L k0).length ca] w fun e w' => ∃ a c, e = .returned (.slice a (d.encL L d.np).length c) ∧ RdA w' a 1 (d.encL L d.np).length c (fun j => .int .i64 ((d.encL L d.np).getD j 0)) ∧ Below w.heap.size w w' := by
  obtain ⟨z1, z2, z3⟩ := hR.cnt
  have HR := hidd hR
  clear hR
  have hf0 := fresh_alloc w (.cells #[.slice bo d.nb cb, .slice po d.np cp] 25)
  have K := row2_new w 25 (.slice bo d.nb cb) (.slice po d.np cp)
  go_enter Try.func27, Try.ntmps27
  go_wp2
  have ha1 := ha.fresh hf0
  generalize w.alloc (.cells #[.slice bo d.nb cb, .slice po d.np cp] 25) = w1 at *
  clear ha
  go_loopw [1] (fun v wr => ∃ (k : Nat) (a : Option Addr) (c : Nat), k ≤ d.np ∧ v = .slice a (d.encL L k).length c ∧ RdA wr a 1 (d.encL L k).length c (fun j => .int .i64 ((d.encL L k).getD j 0)) ∧ Below w1.heap.size w1 wr) (fun v _ => lenV v)
  case atStart => exact ⟨k0, ao, ca, hk0, rfl, ha1, Below.refl _ _⟩
  case round =>
    clear ha1
    obtain ⟨k, a, c, hk, rfl, ra, hfb⟩ := hrel
    have HS := hidd (d.enc_settled HR.out L k hk)
    have hlen : (d.encL L k).length ≤ 1048576 := Nat.le_trans (d.encL_len L k) hL
    go_wp2
    go_loopw [5, 6] (fun av jv wr => ∃ (m : Nat) (x : Int), m ≤ d.np ∧ jv = .int .i64 m ∧ av = .int .i64 x ∧ Hid ((x = -1 ∧ ∀ j, j < m → ¬ stands (d.P j) (d.Q j) (d.encL L k)) ∨ (∃ i, m = i + 1 ∧ x = (i : Int) ∧ stands (d.P i) (d.Q i) (d.encL L k) ∧ ∀ j, j < i → ¬ stands (d.P j) (d.Q j) (d.encL L k))) ∧ RdA wr a 1 (d.encL L k).length c (fun j => .int .i64 ((d.encL L k).getD j 0)) ∧ Below w1.heap.size w1 wr) (fun _ jv _ => d.np - (intOf jv).toNat)
    case atStart => exact ⟨0, -1, by omega, rfl, rfl, .inl ⟨rfl, fun j hj => absurd hj (by omega)⟩, ra, hfb⟩
    case round =>
      clear ra hfb
      obtain ⟨m, x, hm, rfl, rfl, HX, ra, hfb⟩ := hrel
      have hf := fresh_trans hf0 hfb
      obtain ⟨y0, y1⟩ := row2 (K.of_block (hfb.block _ K.lt))
      have HX' := HX.out
      rcases HX' with ⟨rfl, hno⟩ | ⟨i, rfl, rfl, hst, hno⟩
      · have HNO := hidd hno
        clear hno HX
        by_cases hlt : m < d.np
        · obtain ⟨b1, o1, rfl, h1⟩ := (hp.fresh hf).two (by omega)
          obtain ⟨c1, c2⟩ := h1 m hlt
          clear h1
          have i1 : (0 : Int) ≤ (m : Int) := Int.natCast_nonneg _
          have i2 : (m : Int) < (d.np : Int) := by omega
          by_cases e : stands (d.P m) (d.Q m) (d.encL L k)
          · have HE := hidd e
            clear e
            go_wp2_with fail
            refine (stands_ref ra (by omega) (d.P m) (d.Q m) true ⟨fun _ => HE.out, fun _ => rfl⟩).mono ?_
            rintro e w6 ⟨rfl, hf6⟩
            have hfb6 := fresh_trans hfb hf6
            have ra6 := ra.fresh hf6
            clear hf6 c1 c2 y0 y1 hfb ra hf
            go_wp2
            go_roundw
            case rel => exact ⟨m + 1, (m : Int), by omega, by go_num, rfl, .inr ⟨m, rfl, rfl, HE.out, HNO.out⟩, ra6, hfb6⟩
            case measure => simp [intOf]; omega
          · have HE := hidd e
            clear e
            go_wp2_with fail
            refine (stands_ref ra (by omega) (d.P m) (d.Q m) false ⟨(fun h => nomatch h), fun h => absurd h HE.out⟩).mono ?_
            rintro e w6 ⟨rfl, hf6⟩
            have hfb6 := fresh_trans hfb hf6
            have ra6 := ra.fresh hf6
            clear hf6 c1 c2 y0 y1 hfb ra hf
            go_wp2
            go_roundw
            case rel => exact ⟨m + 1, -1, by omega, by go_num, rfl, .inl ⟨rfl, fun j hj => if h : j = m then h ▸ HE.out else HNO.out j (by omega)⟩, ra6, hfb6⟩
            case measure => simp [intOf]; omega
        · have HE := hidd (d.enc_next L hk (fun j _ hj => HNO.out j (by omega)))
          go_wp2
          go_ret
          exact ⟨a, c, by rw [HE.out]; rfl, by rw [HE.out]; exact ra, hf⟩
      · have hki : k ≤ i := Nat.le_of_not_lt fun h => HS.out i h hst
        have HE := hidd (d.enc_next L hki (fun j _ hj => hno j hj))
        have HLS := hidd (join_less (t := 1 + (d.nb : Int) + (i : Int)) hst)
        clear HX hst hno
        obtain ⟨b1, o1, rfl, h1⟩ := (hp.fresh hf).two (by omega)
        obtain ⟨c1, c2⟩ := h1 i (by omega)
        clear h1
        have i1 : (0 : Int) ≤ (i : Int) := Int.natCast_nonneg _
        have i2 : (i : Int) < (d.np : Int) := by omega
        have hd0 : Below wr.heap.size wr wr.drew := (Below.refl _ _).drew
        have hK : Hid (Calls Try.prog 36 #[.slice a (d.encL L k).length c, .agg #[.int .i64 (d.P i), .int .i64 (d.Q i)], .int .i64 (IntKind.i64.wrap (IntKind.i64.wrap ((d.nb : Int) + 1) + (i : Int)))] wr.drew fun e w'' => ∃ v, e = .returned v ∧ OwnI w'' wr.heap.size v (d.encL L (i + 1)) ∧ Below wr.heap.size wr w'') := by
          have hw : Value.int .i64 (IntKind.i64.wrap (IntKind.i64.wrap ((d.nb : Int) + 1) + (i : Int))) = Value.int .i64 ((d.nb : Int) + 1 + (i : Int)) := by rw [Go.IntWalk.i64_in ((d.nb : Int) + 1) (by omega), Go.IntWalk.i64_in _ (by omega)]
          rw [hw]
          refine (joined_ref (ra.fresh hd0) (by omega) (d.P i) (d.Q i) ((d.nb : Int) + 1 + (i : Int))).mono ?_
          rintro e w'' ⟨v, rfl, h1, h2⟩
          refine ⟨v, rfl, ?_, fresh_trans hd0 h2⟩
          rw [VD.encL, HE.out, show 1 + (d.nb : Int) + (i : Int) = (d.nb : Int) + 1 + (i : Int) by omega]
          exact Own.weaken h1 hd0.size
        have hS : Hid (∀ w', Below wr.heap.size wr w' → Below wr.heap.size wr w' ∧ w'.cell? ⟨w.heap.size, 0, none⟩ = some (.slice bo d.nb cb) ∧ w'.cell? ⟨w.heap.size, 1, none⟩ = some (.slice (some ⟨b1, o1, none⟩) d.np cp) ∧ w'.cell? ⟨b1, o1 + i * 2, none⟩ = some (.int .i64 (d.P i)) ∧ w'.cell? ⟨b1, o1 + i * 2 + 1, none⟩ = some (.int .i64 (d.Q i))) := fun w' h => ⟨h, fresh_cell h y0, fresh_cell h y1, fresh_cell h c1, fresh_cell h c2⟩
        by_cases hz : i + 1 < d.np
        all_goals
          go_upto_region 10 with fail
          go_region_held3 (fun w' => Below wr.heap.size wr w' ∧ w'.cell? ⟨w.heap.size, 0, none⟩ = some (.slice bo d.nb cb) ∧ w'.cell? ⟨w.heap.size, 1, none⟩ = some (.slice (some ⟨b1, o1, none⟩) d.np cp) ∧ w'.cell? ⟨b1, o1 + i * 2, none⟩ = some (.int .i64 (d.P i)) ∧ w'.cell? ⟨b1, o1 + i * 2 + 1, none⟩ = some (.int .i64 (d.Q i)))
            (first
              | (with_reducible refine hS.out _ ?_; with_reducible exact hd0)
              | (with_reducible refine hS.out _ ?_; with_reducible exact hf9)
              | go_keep)
            ((go_at_call 36; have hc := hK.out; with_reducible refine hc.mono ?_; clear hc; rintro e w9 ⟨v9, rfl, hO9, hf9⟩))
          all_goals
            obtain ⟨a9, c9, rfl, rd9⟩ := hO9.rd
            have hfb9 := fresh_trans hfb hf9
            have HM : Hid ((d.encL L (i + 1)).length < (d.encL L k).length) := by show _ < _; rw [VD.encL, HE.out]; exact HLS.out
            clear hS hK hd0 y0 y1 c1 c2 hO9 hf9 hfb hf ra
            go_wp2
            go_roundw
            case rel => exact ⟨i + 1, a9, c9, by omega, rfl, rd9, hfb9⟩
            case measure => exact HM.out
end Go.Proofs.Yteiocgciblogdab
