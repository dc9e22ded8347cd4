import Derived.Test.YteiocgciblogdaaVPc2
import Derived.Test.YteiocgciblogdaaVTwin
namespace Go.Proofs.Yteiocgciblogdaa
open Go.RowKit
/-! The reference's piece. -/
/-- a list of bytes of the call's own -/
def OwnB (w : World) (base : Nat) (v : Value) (l : List Int) : Prop := Own w base 5 1 v l.length (fun j => .int .u8 (l.getD j 0))
theorem off_own {w w' : World} {base : Nat} {e e' : TypeId} {s s' n n' : Nat} {a b : Value} {cs cs' : Nat → Value} (ha : Own w base e s a n cs) (hb : Own w' w.heap.size e' s' b n' cs') : Off a b := fun k hk hb' => by
  have := (ha.lt k hk).2
  have := (hb.lt k hb').1
  omega
theorem ownB_nil (w : World) (base : Nat) : OwnB w base (.slice none 0 0) [] := own_nil _ _ _ _ _
theorem getD_app_lo {a b : List Int} {j : Nat} (h : j < a.length) : (a ++ b).getD j 0 = a.getD j 0 := by simp [List.getD_eq_getElem?_getD, List.getElem?_append, h]
theorem getD_app_hi {a b : List Int} (j : Nat) : (a ++ b).getD (a.length + j) 0 = b.getD j 0 := by
  rw [List.getD_eq_getElem?_getD, List.getElem?_append_right (by omega), show a.length + j - a.length = j by omega, List.getD_eq_getElem?_getD]
set_option maxRecDepth 20000 in
set_option maxHeartbeats 4000000 in
theorem piece_ref {d : VD} (hR : d.Right) {bo po : Option Addr} {cb cp : Nat} : ∀ (t : Nat), t < d.nb + 1 + d.np → ∀ (w : World), RdA w bo 1 d.nb cb (fun i => .int .u8 (d.B i)) → RdA w po 2 d.np cp (tcs d.P d.Q) →
    Calls Try.prog 34 #[.agg #[.slice bo d.nb cb, .slice po d.np cp], .int .i64 (t : Int)] w fun e w' => ∃ v, e = .returned v ∧ OwnB w' w.heap.size v (d.pc t) ∧ Below w.heap.size w w' := by
  obtain ⟨z1, z2, z3⟩ := hR.cnt
  have HOK := hidd hR.ok
  have HLN := hidd hR.len
  clear hR
  intro t
  induction t using Nat.strongRecOn with
  | _ t ih =>
    intro ht w hb hp
    have IH := hidd ih
    clear ih
    have hf0 := fresh_alloc w (.cells #[.slice bo d.nb cb, .slice po d.np cp] 25)
    have r0 := row2_new w 25 (.slice bo d.nb cb) (.slice po d.np cp)
    by_cases h0 : t = 0
    · subst h0
      rw [d.pc_zero]
      clear r0
      go_enter Try.func34, Try.ntmps34
      go_wp2
      go_ret
      exact ⟨_, rfl, ownB_nil _ _, hf0⟩
    by_cases h1 : t ≤ d.nb
    · obtain ⟨i, rfl⟩ : ∃ i, t = i + 1 := ⟨t - 1, by omega⟩
      rw [d.pc_base (by omega)]
      obtain ⟨b1, o1, rfl, hc⟩ := (hb.fresh hf0).one (by omega)
      have c1 := hc i (by omega)
      have hO := hidd ((own_one (w.alloc (.cells #[.slice (some ⟨b1, o1, none⟩) d.nb cb, .slice po d.np cp] 25)) 5 (.int .u8 (d.B i)) (fun j => .int .u8 ([d.B i].getD j 0)) rfl))
      clear hc r0
      go_enter Try.func34, Try.ntmps34
      go_wp2
      go_ret
      exact ⟨_, rfl, Own.weaken (by simpa using hO.out) (by simp), hf0.alloc (by simp) _⟩
    · obtain ⟨j, rfl⟩ : ∃ j, t = d.nb + 1 + j := ⟨t - d.nb - 1, by omega⟩
      have hj : j < d.np := by omega
      obtain ⟨a1, a2, a3, a4⟩ := HOK.out j hj
      obtain ⟨p, eP⟩ : ∃ p : Nat, d.P j = (p : Int) := ⟨(d.P j).toNat, by omega⟩
      obtain ⟨q, eQ⟩ : ∃ q : Nat, d.Q j = (q : Int) := ⟨(d.Q j).toNat, by omega⟩
      have hL : d.pc (d.nb + 1 + j) = d.pc p ++ d.pc q := by rw [d.pc_pair ⟨a1, a2, a3, a4⟩, eP, eQ]; rfl
      have l1 := d.len_le (m := d.np) HLN.out p (by omega)
      have l2 := d.len_le (m := d.np) HLN.out q (by omega)
      rw [hL]
      obtain ⟨b1, o1, rfl, hc⟩ := (hp.fresh hf0).two (by omega)
      obtain ⟨c1, c2⟩ := hc j hj
      rw [eP] at c1 a1 a3
      rw [eQ] at c2 a2 a4
      clear eP eQ hL hc
      have ej : d.nb + 1 + j - d.nb - 1 = j := by omega
      have c1' : (w.alloc (.cells #[.slice bo d.nb cb, .slice (some ⟨b1, o1, none⟩) d.np cp] 25)).cell? ⟨b1, o1 + (d.nb + 1 + j - d.nb - 1) * 2, none⟩ = some (.int .i64 (p : Int)) := by rw [ej]; exact c1
      have c2' : (w.alloc (.cells #[.slice bo d.nb cb, .slice (some ⟨b1, o1, none⟩) d.np cp] 25)).cell? ⟨b1, o1 + (d.nb + 1 + j - d.nb - 1) * 2 + 1, none⟩ = some (.int .i64 (q : Int)) := by rw [ej]; exact c2
      clear ej c1 c2
      have i1 : (0 : Int) ≤ (j : Int) := Int.natCast_nonneg _
      have i2 : (j : Int) < (d.np : Int) := by omega
      have r1 := r0.alloc (.cells #[.int .i64 (p : Int), .int .i64 (q : Int)] 45)
      have k1 := row2_new (w.alloc (.cells #[.slice bo d.nb cb, .slice (some ⟨b1, o1, none⟩) d.np cp] 25)) 45 (.int .i64 (p : Int)) (.int .i64 (q : Int))
      simp only [World.size_alloc] at k1
      have hf1 := fresh_trans hf0 (fresh_alloc _ (.cells #[.int .i64 (p : Int), .int .i64 (q : Int)] 45))
      go_enter Try.func34, Try.ntmps34
      go_wp2_with fail
      clear c1' c2' r0
      generalize (w.alloc (.cells #[.slice bo d.nb cb, .slice (some ⟨b1, o1, none⟩) d.np cp] 25)).alloc (.cells #[.int .i64 (p : Int), .int .i64 (q : Int)] 45) = w1 at *
      refine (IH.out p (by omega) (by omega) w1 (hb.fresh hf1) (hp.fresh hf1)).mono ?_
      rintro e w2 ⟨va, rfl, hA, hf2⟩
      have hF2 := fresh_trans hf1 hf2
      obtain ⟨y0, y1⟩ := row2 (r1.of_block (hf2.block _ r1.lt))
      obtain ⟨x0, x1⟩ := row2 (k1.of_block (hf2.block _ k1.lt))
      go_wp2_with fail
      clear y0 y1 x0 x1
      refine (IH.out q (by omega) (by omega) w2 (hb.fresh hF2) (hp.fresh hF2)).mono ?_
      rintro e w3 ⟨vb, rfl, hB, hf3⟩
      have hF3 := fresh_trans hF2 hf3
      have hoff := off_own hA hB
      have hA3 : Own w3 w.heap.size 5 1 va ((d.pc p).length + 0) (fun j => .int .u8 ((d.pc p ++ d.pc q).getD j 0)) := ((hA.kept hf3).weaken hf1.size).congr (fun j hj => by rw [getD_app_lo (by omega)])
      have hB3 : Own w3 w.heap.size 5 1 vb (d.pc q).length (fun j => .int .u8 ((d.pc q).getD j 0)) := hB.weaken hF2.size
      clear hA hB hf2 hf3 r1 k1 IH
      obtain ⟨ab, kb, rfl, _⟩ := hB3.rd
      go_wp2
      go_loopw [6, 8] (fun a i wr => ∃ k : Nat, k ≤ (d.pc q).length ∧ i = .int .i64 k ∧ Own wr w.heap.size 5 1 a ((d.pc p).length + k) (fun j => .int .u8 ((d.pc p ++ d.pc q).getD j 0)) ∧ Own wr w.heap.size 5 1 (.slice ab (d.pc q).length kb) (d.pc q).length (fun j => .int .u8 ((d.pc q).getD j 0)) ∧ Off a (.slice ab (d.pc q).length kb) ∧ Below w.heap.size w wr) (fun _ i _ => (d.pc q).length - (intOf i).toNat)
      case atStart => exact ⟨0, by omega, rfl, hA3, hB3, hoff, hF3⟩
      case round =>
        clear hA3 hB3 hoff hF3
        obtain ⟨k, hk, rfl, hA, hB, hoff, hf⟩ := hrel
        have hsz := hf.size
        by_cases hlt : k < (d.pc q).length
        · obtain ⟨b5, o5, rfl, hc⟩ := hB.rda.one (by omega)
          have c1 := hc k hlt
          clear hc
          have E : Hid ((d.pc p ++ d.pc q).getD ((d.pc p).length + k) 0 = (d.pc q).getD k 0) := getD_app_hi k
          generalize (d.pc q).getD k 0 = X at *
          go_wp2_with (at_builtin; refine wpList_app1 _ rfl _ _ 22 rfl _ 5 (.int .u8 0) 1 Try.underlying22 infoB rfl _ ((d.pc p).length + k) _ rfl (hA.kept (fresh_alloc _ _)) _ 1 rfl (new_int _ _ E.out) rfl (by omega) (by omega) (by simp; omega) ?_)
          intro v' w6 hown' happ
          have hf6 := happ.below (hf.alloc hsz _) (hA.kept (fresh_alloc _ _)) (Nat.le_refl _) (by simp; omega)
          have hB6 := happ.own (hB.kept (fresh_alloc _ _)) hoff
          have hoff6 := happ.off (hB.kept (fresh_alloc _ _)) hoff
          clear happ hA hf c1 hB hoff
          go_wp2
          go_roundw
          case rel => exact ⟨k + 1, by omega, by go_num, hown', hB6, hoff6, hf6⟩
          case measure => simp [intOf]; omega
        · obtain rfl : k = (d.pc q).length := by omega
          go_wp2
          go_ret
          exact ⟨_, rfl, by unfold OwnB; rw [List.length_append]; exact hA, hf⟩
end Go.Proofs.Yteiocgciblogdaa
