import Derived.Test.YtlbmgknlbhakoaaTxE
import Derived.Test.YtlbmgknlbhakoaaVSiz
namespace Go.Proofs.Ytlbmgknlbhakoaa
open Go.RowKit
/-! New's errors, Long, right, join, EqBytes. -/
set_option maxRecDepth 100000 in
set_option maxHeartbeats 2000000 in
theorem new_bad {w : World} {d : VD} {bo po so : Option Addr} {cb cp cs : Nat} {sb : List ByteArray} (hb : RdA w bo 1 d.nb cb (fun i => .int .u8 (d.B i))) (hp : RdA w po 2 d.np cp (tcs d.P d.Q))
    (hs : RdA w so 1 sb.length cs (fun i => .string (sb.getD i ByteArray.empty))) (hlen : ∀ i, i < sb.length → (sb.getD i ByteArray.empty).size ≤ 9223372036854775807) (hM : ¬ (d.Right ∧ MaySt sb)) :
    Calls Try.prog 11 #[.agg #[.slice bo d.nb cb, .slice po d.np cp], .slice so sb.length cs] w fun e w' => (∃ x, e = .returned (.tuple #[.pointer none, .int .i64 x]) ∧ x ≠ 0 ∧ (¬ d.Right → x = 50) ∧ (d.Right → x = 180)) ∧ Below w.heap.size w w' := by
  have hf0 := fresh_alloc w (.cells #[.slice bo d.nb cb, .slice po d.np cp] 25)
  by_cases hR : d.Right
  · have HMY : Hid (∀ w', Below w.heap.size w w' → Calls Try.prog 24 #[.slice so sb.length cs] w' fun e w'' => e = .returned (.bool false) ∧ w'' = w') := fun w' f => mayst_any (hs.fresh f) hlen false ⟨(fun h => nomatch h), fun h => absurd ⟨hR, h⟩ hM⟩
    have HR := hidd hR
    have HCK := hidd (pcheck_any (hb.fresh hf0) (hp.fresh hf0) 0 (.inl ⟨hR, rfl⟩))
    clear hs hlen hM hR hb hp
    obtain ⟨m, em⟩ : ∃ m, m = sb.length := ⟨_, rfl⟩
    rw [← em] at HMY ⊢
    clear em
    refine (callsIn_wide (n := 3)).1 ?_
    refine callsIn_of_wp_marks Try.func11 rfl trivial ?_ rfl
    simp only [Try.ntmps11, List.size_toArray, List.length_cons, List.length_nil, Nat.reduceAdd, Nat.reduceSub, Array.replicate_succ, Array.replicate_zero, List.push_toArray, List.append_toArray, List.nil_append, List.cons_append]
    gi_wp2_with fail
    refine ⟨trivial, ?_⟩
    gi_at_call 23
    refine (callsIn_wide.2 HCK.out).mono ?_
    rintro e w2 ⟨rfl, hf2⟩
    have hF2 := fresh_trans hf0 hf2
    gi_wp2_with fail
    refine ⟨trivial, ?_⟩
    gi_at_call 24
    refine (callsIn_wide.2 (HMY.out w2 hF2)).mono ?_
    rintro e w3 ⟨rfl, hw3⟩
    rw [hw3]
    gi_wp2
    refine ⟨.tuple #[.pointer none, .int .i64 180], by simp [results, Try.f11, go_sem], ⟨180, rfl, by decide, fun h => absurd HR.out h, fun _ => rfl⟩, hF2⟩
  · have HCK := hidd (pcheck_any (hb.fresh hf0) (hp.fresh hf0) 50 (.inr ⟨hR, rfl⟩))
    have HR := hidd hR
    clear hs hlen hM hR hb hp
    refine (callsIn_wide (n := 3)).1 ?_
    refine callsIn_of_wp_marks Try.func11 rfl trivial ?_ rfl
    simp only [Try.ntmps11, List.size_toArray, List.length_cons, List.length_nil, Nat.reduceAdd, Nat.reduceSub, Array.replicate_succ, Array.replicate_zero, List.push_toArray, List.append_toArray, List.nil_append, List.cons_append]
    gi_wp2_with fail
    refine ⟨trivial, ?_⟩
    gi_at_call 23
    refine (callsIn_wide.2 HCK.out).mono ?_
    rintro e w2 ⟨rfl, hf2⟩
    have hF2 := fresh_trans hf0 hf2
    gi_wp2
    refine ⟨.tuple #[.pointer none, .int .i64 50], by simp [results, Try.f11, go_sem], ⟨50, rfl, by decide, fun _ => rfl, fun h => absurd h HR.out⟩, hF2⟩
theorem long_any (n : Nat) (hn : n ≤ 9223372036854775807) (w : World) :
    Calls Try.prog 9 #[.int .i64 (n : Int)] w fun e w' => e = .returned (.bool (decide (2147483647 < n))) ∧ w' = w := by
  by_cases h : 2147483647 < n
  · have d1 : decide ((n : Int) > 2147483647) = true := by simp; omega
    go_enter Try.func9, Try.ntmps9
    go_wp2
    go_ret
    simp [h]
  · have d1 : decide ((n : Int) > 2147483647) = false := by simp; omega
    go_enter Try.func9, Try.ntmps9
    go_wp2
    go_ret
    simp [h]
/-- what right makes of a number -/
def rtN (N : Nat) (may : Bool) (z : Int) : Nat := if z % (N : Int) = 0 ∧ may = false then 1 else (z % (N : Int)).toNat
def rtL (d : VD) (may : Bool) (T : Nat → Int) (n : Nat) : List Nat := (List.range n).map (fun i => rtN (d.nb + 1 + d.np) may (T i))
theorem rtN_lt {N : Nat} (hN : 1 < N) (may : Bool) (z : Int) : rtN N may z < N := by
  unfold rtN
  have h1 := Int.emod_nonneg z (show (N : Int) ≠ 0 by omega)
  have h2 := Int.emod_lt_of_pos z (show (0 : Int) < (N : Int) by omega)
  split <;> omega
theorem rtN_pos {N : Nat} (hN : 1 < N) (z : Int) : 0 < rtN N false z := by
  unfold rtN
  have h1 := Int.emod_nonneg z (show (N : Int) ≠ 0 by omega)
  split
  · omega
  · rename_i h
    have : ¬ z % (N : Int) = 0 := fun e => h ⟨e, rfl⟩
    omega
theorem rtL_len (d : VD) (may : Bool) (T : Nat → Int) (n : Nat) : (rtL d may T n).length = n := by simp [rtL]
theorem rtL_get (d : VD) (may : Bool) (T : Nat → Int) {n i : Nat} (h : i < n) : (rtL d may T n).getD i 0 = rtN (d.nb + 1 + d.np) may (T i) := by simp [rtL, List.getD_eq_getElem?_getD, h]
set_option maxRecDepth 100000 in
set_option maxHeartbeats 2000000 in
theorem right_any {w : World} {d : VD} {bo po lo : Option Addr} {cb cp cl n : Nat} {T : Nat → Int} (hb : RdA w bo 1 d.nb cb (fun i => .int .u8 (d.B i))) (hp : RdA w po 2 d.np cp (tcs d.P d.Q)) (hR : d.Right)
    (hl : RdA w lo 1 n cl (fun i => .int .i64 (T i))) (hT : ∀ i, i < n → -9223372036854775808 ≤ T i ∧ T i ≤ 9223372036854775807) (hn : n ≤ 2147483647) (may : Bool) :
    Calls Try.prog 13 #[.agg #[.slice bo d.nb cb, .slice po d.np cp], .slice lo n cl, .bool may] w fun e w' => ∃ v, e = .returned v ∧ Own w' w.heap.size 3 1 v n (fun i => .int .i64 ((rtL d may T n).getD i 0 : Nat)) ∧ Below w.heap.size w w' := by
  have hf0 := fresh_alloc w (.cells #[.slice bo d.nb cb, .slice po d.np cp] 25)
  obtain ⟨z1, z2, z3⟩ := hR.cnt
  have HSZ := hidd (psize_any (hb.fresh hf0) (hp.fresh hf0) _ (.inl ⟨hR, rfl⟩))
  obtain ⟨N, eN⟩ : ∃ N, N = d.nb + 1 + d.np := ⟨_, rfl⟩
  have HG : Hid (∀ i, i < n → (rtL d may T n).getD i 0 = rtN N may (T i)) := fun i hi => by rw [rtL_get d may T hi, eN]
  rw [← eN] at HSZ
  have hN1 : 1 < N := by omega
  have hN2 : N ≤ 64 := by omega
  have HL := hidd hl
  have HT := hidd hT
  have hcl := hl.le
  clear hb hp hR z1 z2 z3 hl hT eN
  obtain ⟨L, eL⟩ : ∃ L, L = rtL d may T n := ⟨_, rfl⟩
  rw [← eL] at HG ⊢
  clear eL
  go_enter Try.func13, Try.ntmps13
  go_wp2_with fail
  refine HSZ.out.mono ?_
  rintro e w2 ⟨rfl, hf2⟩
  have hF2 := fresh_trans hf0 hf2
  clear hf0 hf2 HSZ
  go_wp2
  go_loopw [8, 9] (fun v i wr => ∃ k : Nat, k ≤ n ∧ i = .int .i64 k ∧ Own wr w.heap.size 3 1 v k (fun i => .int .i64 (L.getD i 0 : Nat)) ∧ Below w.heap.size w wr) (fun _ i _ => n - (intOf i).toNat)
  case atStart => exact ⟨0, Nat.zero_le _, rfl, own_nil _ _ _ _ _, hF2⟩
  case round =>
    obtain ⟨k, hk, rfl, hO, hf⟩ := hrel
    obtain ⟨av, kv, rfl, _⟩ := hO.rd
    have hsz := hf.size
    by_cases hlt : k < n
    · obtain ⟨b1, o1, rfl, hc⟩ := (HL.out.fresh hf).one (by omega)
      have c1 := hc k hlt
      have hb1 := HT.out k hlt
      have hgk := HG.out k hlt
      obtain ⟨z, ez⟩ : ∃ z, z = T k := ⟨_, rfl⟩
      rw [← ez] at c1 hb1 hgk
      clear hc ez
      have hm1 := Int.emod_nonneg z (show (N : Int) ≠ 0 by omega)
      have hm2 := Int.emod_lt_of_pos z (show (0 : Int) < (N : Int) by omega)
      have hN0 : ¬ ((N : Int) = 0) := by omega
      have htm : z.tmod (N : Int) = if z.tmod (N : Int) < 0 then z % (N : Int) - N else z % (N : Int) := by
        rcases Int.lt_or_le z 0 with h0 | h0
        · have e1 := Int.tmod_eq_emod (a := z) (b := (N : Int))
          split <;> split at e1 <;> omega
        · have e1 : z.tmod (N : Int) = z % (N : Int) := Int.tmod_eq_emod_of_nonneg h0
          rw [if_neg (by omega)]; exact e1
      have hlow := Int.lt_tmod_of_pos z (show (0 : Int) < (N : Int) by omega)
      obtain ⟨q, eq⟩ : ∃ q, q = z.tmod (N : Int) := ⟨_, rfl⟩
      rw [← eq] at htm hlow
      have hgk2 : ((L.getD k 0 : Nat) : Int) = if z % (N : Int) = 0 ∧ may = false then 1 else z % (N : Int) := by
        rw [hgk]; unfold rtN; split <;> omega
      obtain ⟨y, ey⟩ : ∃ y, y = z % (N : Int) := ⟨_, rfl⟩
      rw [← ey] at htm hm1 hm2 hgk2
      have hq := eq.symm
      have HO := hidd hO
      clear eq ey hgk hO
      by_cases hq0 : q < 0
      · have ey : q + (N : Int) = y := by (split at htm) <;> omega
        have hy0 : ((q + (N : Int)) == 0) = false := by simp; omega
        have hyy : (L.getD k 0 : Nat) = q + (N : Int) := by rw [hgk2, if_neg (by omega), ey]
        have HX : Hid (∀ (w : World) (t : TypeId), (w.alloc (.cells #[.int .i64 (q + (N : Int))] t)).cell? ⟨w.heap.size, 0, none⟩ = some ((fun i => Value.int .i64 (L.getD i 0 : Nat)) k)) := fun w t => new_int w t hyy
        clear htm hgk2 hyy ey
        go_wp2_with (at_builtin; refine wpList_app1 _ rfl _ _ 27 rfl w.heap.size 3 (.int .i64 0) 8 Try.underlying27 infoI rfl _ k (fun i => .int .i64 (L.getD i 0 : Nat)) rfl (HO.out.kept (fresh_alloc _ _)) _ 1 rfl (HX.out _ _) rfl (by omega) (by omega) (by simp; omega) ?_)
        intro v6 w6 hown6 happ
        have hf6 := happ.below (hf.trans ((fresh_alloc _ _).mono hsz)) (HO.out.kept (fresh_alloc _ _)) (Nat.le_refl _) (by simp; omega)
        obtain ⟨a6, k6, rfl, _⟩ := hown6.rd
        clear happ
        go_wp2
        go_roundw
        case rel => exact ⟨k + 1, by omega, by go_num, hown6, hf6⟩
        case measure => simp [intOf]; omega
      · have ey : y = q := by (split at htm) <;> omega
        subst ey
        by_cases hy : y = 0
        · have hy0 : (y == 0) = true := by simp [hy]
          cases may with
          | true =>
            have hyy : (L.getD k 0 : Nat) = y := by rw [hgk2, if_neg (by simp)]
            have HX : Hid (∀ (w : World) (t : TypeId), (w.alloc (.cells #[.int .i64 y] t)).cell? ⟨w.heap.size, 0, none⟩ = some ((fun i => Value.int .i64 (L.getD i 0 : Nat)) k)) := fun w t => new_int w t hyy
            clear htm hgk2 hyy hy
            go_wp2_with (at_builtin; refine wpList_app1 _ rfl _ _ 27 rfl w.heap.size 3 (.int .i64 0) 8 Try.underlying27 infoI rfl _ k (fun i => .int .i64 (L.getD i 0 : Nat)) rfl (HO.out.kept (fresh_alloc _ _)) _ 1 rfl (HX.out _ _) rfl (by omega) (by omega) (by simp; omega) ?_)
            intro v6 w6 hown6 happ
            have hf6 := happ.below (hf.trans ((fresh_alloc _ _).mono hsz)) (HO.out.kept (fresh_alloc _ _)) (Nat.le_refl _) (by simp; omega)
            obtain ⟨a6, k6, rfl, _⟩ := hown6.rd
            clear happ
            go_wp2
            go_roundw
            case rel => exact ⟨k + 1, by omega, by go_num, hown6, hf6⟩
            case measure => simp [intOf]; omega
          | false =>
            have hyy : (L.getD k 0 : Nat) = (1 : Int) := by rw [hgk2, if_pos ⟨hy, rfl⟩]
            have HX : Hid (∀ (w : World) (t : TypeId), (w.alloc (.cells #[.int .i64 1] t)).cell? ⟨w.heap.size, 0, none⟩ = some ((fun i => Value.int .i64 (L.getD i 0 : Nat)) k)) := fun w t => new_int w t hyy
            clear htm hgk2 hyy hy
            go_wp2_with (at_builtin; refine wpList_app1 _ rfl _ _ 27 rfl w.heap.size 3 (.int .i64 0) 8 Try.underlying27 infoI rfl _ k (fun i => .int .i64 (L.getD i 0 : Nat)) rfl (HO.out.kept (fresh_alloc _ _)) _ 1 rfl (HX.out _ _) rfl (by omega) (by omega) (by simp; omega) ?_)
            intro v6 w6 hown6 happ
            have hf6 := happ.below (hf.trans ((fresh_alloc _ _).mono hsz)) (HO.out.kept (fresh_alloc _ _)) (Nat.le_refl _) (by simp; omega)
            obtain ⟨a6, k6, rfl, _⟩ := hown6.rd
            clear happ
            go_wp2
            go_roundw
            case rel => exact ⟨k + 1, by omega, by go_num, hown6, hf6⟩
            case measure => simp [intOf]; omega
        · have hy0 : (y == 0) = false := by simp [hy]
          have hyy : (L.getD k 0 : Nat) = y := by rw [hgk2, if_neg (by omega)]
          have HX : Hid (∀ (w : World) (t : TypeId), (w.alloc (.cells #[.int .i64 y] t)).cell? ⟨w.heap.size, 0, none⟩ = some ((fun i => Value.int .i64 (L.getD i 0 : Nat)) k)) := fun w t => new_int w t hyy
          clear htm hgk2 hyy
          go_wp2_with (at_builtin; refine wpList_app1 _ rfl _ _ 27 rfl w.heap.size 3 (.int .i64 0) 8 Try.underlying27 infoI rfl _ k (fun i => .int .i64 (L.getD i 0 : Nat)) rfl (HO.out.kept (fresh_alloc _ _)) _ 1 rfl (HX.out _ _) rfl (by omega) (by omega) (by simp; omega) ?_)
          intro v6 w6 hown6 happ
          have hf6 := happ.below (hf.trans ((fresh_alloc _ _).mono hsz)) (HO.out.kept (fresh_alloc _ _)) (Nat.le_refl _) (by simp; omega)
          obtain ⟨a6, k6, rfl, _⟩ := hown6.rd
          clear happ
          go_wp2
          go_roundw
          case rel => exact ⟨k + 1, by omega, by go_num, hown6, hf6⟩
          case measure => simp [intOf]; omega
    · obtain rfl : k = n := by omega
      have HO := hidd hO
      clear hO
      go_wp2
      go_ret
      exact ⟨_, rfl, HO.out, hf⟩
end Go.Proofs.Ytlbmgknlbhakoaa
