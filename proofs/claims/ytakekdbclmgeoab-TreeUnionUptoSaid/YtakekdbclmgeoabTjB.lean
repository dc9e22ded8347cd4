import Derived.Test.YtakekdbclmgeoabTjA
namespace Go.Proofs.Ytakekdbclmgeoab
open Go.RowKit
/-! Join, on both sides. -/
/-- a parent moved on -/
def shf (a : Nat) (p : Int) : Int := if 0 ≤ p then IntKind.i64.wrap (p + (a : Int)) else p
def mvd (a : Nat) (R : List (Int × Int)) : List (Int × Int) := R.map (fun x => (shf a x.1, x.2))
theorem mvd_len (a : Nat) (R : List (Int × Int)) : (mvd a R).length = R.length := by unfold mvd; simp
theorem mvd_take (a : Nat) (R : List (Int × Int)) {k : Nat} (h : k < R.length) : mvd a (R.take (k + 1)) = mvd a (R.take k) ++ [(shf a (R.getD k (0, 0)).1, (R.getD k (0, 0)).2)] := by
  rw [take_app R h]
  unfold mvd
  rw [List.map_append]
  rfl
def jn (X : Nat → List (Int × Int)) : Nat → List (Int × Int)
  | 0 => []
  | i + 1 => jn X i ++ mvd (jn X i).length (X i)
theorem jn_len (X : Nat → List (Int × Int)) (i : Nat) : (jn X (i + 1)).length = (jn X i).length + (X i).length := by
  show (jn X i ++ _).length = _
  rw [List.length_append, mvd_len]
theorem jn_mono (X : Nat → List (Int × Int)) : ∀ m i, (jn X i).length ≤ (jn X (i + m)).length
  | 0, _ => Nat.le_refl _
  | m + 1, i => by
    have := jn_mono X m i
    rw [← Nat.add_assoc, jn_len]
    omega
/-- lists of raw nodes in memory -/
structure Rl (w : World) (ao : Option Addr) (m cap : Nat) (X : Nat → List (Int × Int)) (A : Nat → Option Addr) (C : Nat → Nat) : Prop where
  out : RdA w ao 1 m cap (fun i => .slice (A i) (X i).length (C i))
  inn : ∀ i, i < m → RdA w (A i) 2 (X i).length (C i) (rwF (X i))
theorem Rl.fresh {w w' : World} {ao : Option Addr} {m cap : Nat} {X : Nat → List (Int × Int)} {A : Nat → Option Addr} {C : Nat → Nat} (h : Rl w ao m cap X A C) (f : Below w.heap.size w w') : Rl w' ao m cap X A C := ⟨h.out.fresh f, fun i hi => (h.inn i hi).fresh f⟩
set_option maxRecDepth 20000 in
set_option maxHeartbeats 3200000 in
theorem join_any {w : World} {ao : Option Addr} {m cap : Nat} {X : Nat → List (Int × Int)} {A : Nat → Option Addr} {C : Nat → Nat} (h : Rl w ao m cap X A C) (hm : m ≤ 1048576) (ht : (jn X m).length ≤ 1048576) :
    Calls Try.prog 20 #[.slice ao m cap] w fun e w' => ∃ u c, e = .returned (.slice u (jn X m).length c) ∧ Own w' w.heap.size 41 2 (.slice u (jn X m).length c) (jn X m).length (rwF (jn X m)) ∧ Below w.heap.size w w' := by
  have HH := hidd h
  have HT : Hid (∀ i, i ≤ m → (jn X i).length ≤ 1048576) := fun i hi => by have := jn_mono X (m - i) i; rw [show i + (m - i) = m by omega] at this; omega
  clear h ht
  go_enter Try.func20, Try.ntmps20
  go_wp2
  go_loopw [3, 11] (fun v vi wr => ∃ i : Nat, i ≤ m ∧ vi = .int .i64 i ∧ (∃ u c, v = .slice u (jn X i).length c ∧ Hid (Own wr w.heap.size 41 2 (.slice u (jn X i).length c) (jn X i).length (rwF (jn X i)))) ∧ Hid (Below w.heap.size w wr)) (fun _ vi _ => m - (intOf vi).toNat)
  case atStart => exact ⟨0, by omega, rfl, ⟨none, 0, rfl, own_nil _ _ _ _ _⟩, Below.refl _ _⟩
  case round =>
    obtain ⟨i, hi, rfl, ⟨u, c, rfl, HO⟩, HB⟩ := hrel
    by_cases hlt : i < m
    · have d1 : decide ((i : Int) < (m : Int)) = true := decide_eq_true (by omega)
      have d2 : (i : Int) < (m : Int) := by omega
      obtain ⟨b1, o1, hu, h1⟩ := (HH.out.out.fresh HB.out).one (by omega)
      subst hu
      have c1 : wr.cell? ⟨b1, o1 + i, none⟩ = some (.slice (A i) (X i).length (C i)) := h1 i hlt
      have HIN := hidd (HH.out.inn i hlt)
      have htn := HT.out (i + 1) (by omega)
      rw [jn_len] at htn
      obtain ⟨R, HR⟩ : ∃ R, Hid (R = X i) := ⟨_, rfl⟩
      obtain ⟨J, HJ⟩ : ∃ J, Hid (J = jn X i) := ⟨_, rfl⟩
      obtain ⟨n, HN⟩ : ∃ n, Hid (n = R.length) := ⟨_, rfl⟩
      obtain ⟨a, HA⟩ : ∃ a, Hid (a = J.length) := ⟨_, rfl⟩
      rw [← HR.out, ← HN.out] at c1 HIN
      rw [← HR.out, ← HN.out, ← HJ.out, ← HA.out] at htn
      rw [← HJ.out, ← HA.out] at HO ⊢
      have HNX : Hid (jn X (i + 1) = J ++ mvd a R) := by
        show jn X i ++ mvd (jn X i).length (X i) = _
        rw [← HJ.out, ← HR.out, ← HA.out]
      have HS0 : Hid (Own wr w.heap.size 41 2 (.slice u (a + 0) c) (a + 0) (rwF (J ++ mvd a (R.take 0)))) := by
        have := HO.out
        show Own _ _ _ _ _ _ _
        simpa [mvd] using this
      clear h1 HO
      go_wp2
      go_loopw [3, 19] (fun v vk wr => ∃ k : Nat, k ≤ n ∧ vk = .int .i64 k ∧ (∃ u c, v = .slice u (a + k) c ∧ Hid (Own wr w.heap.size 41 2 (.slice u (a + k) c) (a + k) (rwF (J ++ mvd a (R.take k))))) ∧ Hid (Below w.heap.size w wr)) (fun _ vk _ => n - (intOf vk).toNat)
      case atStart => exact ⟨0, by omega, rfl, ⟨u, c, rfl, HS0⟩, HB⟩
      case round =>
        obtain ⟨k, hk, rfl, ⟨u', c', rfl, HOk⟩, HBk⟩ := hrel
        have hsz := HBk.out.size
        by_cases hkl : k < n
        · have e1 : decide ((k : Int) < (n : Int)) = true := decide_eq_true (by omega)
          have e2 : (k : Int) < (n : Int) := by omega
          obtain ⟨b2, o2, hu2, h2⟩ := (HIN.out.fresh HBk.out).raw HN.out (by omega)
          rw [hu2]
          obtain ⟨c2, c3⟩ := h2 k hkl
          have hkR : k < R.length := by have := HN.out; omega
          have HMV := mvd_take a R hkR
          obtain ⟨p, HP⟩ : ∃ p, Hid (p = (R.getD k (0, 0)).1) := ⟨_, rfl⟩
          obtain ⟨t, HTT⟩ : ∃ t, Hid (t = (R.getD k (0, 0)).2) := ⟨_, rfl⟩
          rw [← HP.out] at c2 HMV
          rw [← HTT.out] at c3 HMV
          by_cases hp : 0 ≤ p
          · have e3 : decide ((0 : Int) ≤ p) = true := decide_eq_true hp
            obtain ⟨y, HY⟩ : ∃ y, Hid (y = shf a p) := ⟨_, rfl⟩
            rw [← HY.out] at HMV
            have e4 : IntKind.i64.wrap (p + (a : Int)) = y := by rw [HY.out]; unfold shf; rw [if_pos hp]
            have HOa : Hid (Own wr w.heap.size 41 2 (.slice u' (a + k) c') (a + k) (rwF (J ++ mvd a (R.take (k + 1))))) := HOk.out.congr (fun j hj => rwF_pre (by rw [HMV, ← List.append_assoc]; exact List.prefix_append _ _) (by rw [List.length_append, mvd_len, List.length_take]; have := HA.out; omega))
            have HX : Hid (∀ j, j < 1 * 2 → ((wr.alloc (.cells #[.int .i64 y, .int .i64 t] 41)).alloc (.cells #[.int .i64 y, .int .i64 t] 41)).cell? ⟨wr.heap.size + 1, j, none⟩ = some (rwF (J ++ mvd a (R.take (k + 1))) ((a + k) * 2 + j))) := fun j hj => by
              have := rw_cells (wr.alloc (.cells #[.int .i64 y, .int .i64 t] 41)) (J ++ mvd a (R.take k)) y t (n := a + k) (by rw [List.length_append, mvd_len, List.length_take]; have := HA.out; omega) j hj
              rw [World.size_alloc] at this
              rw [HMV, ← List.append_assoc]
              exact this
            clear HOk HMV h2 hkR
            go_wp2_with (at_builtin; refine wpList_app _ rfl _ _ 22 rfl w.heap.size 41 (.agg #[.int .i64 0, .int .i64 0]) 2 16 Try.underlying22 infoR rfl (by decide) _ (a + k) (rwF (J ++ mvd a (R.take (k + 1)))) rfl ((HOa.out.kept (fresh_alloc _ _)).kept (fresh_alloc _ _)) _ 1 1 rfl HX.out (fun j _ => rwF_one _ _) (by decide) (by unfold maxLen; omega) (by omega) (by simp; omega) ?_)
            intro v' w1 hown' happ
            have HF1 := hidd (happ.below ((HBk.out.alloc hsz _).alloc (by simp; omega) _) ((HOa.out.kept (fresh_alloc _ _)).kept (fresh_alloc _ _)) (Nat.le_refl _) (by simp; omega))
            obtain ⟨u9, c9, rfl, _⟩ := hown'.rd
            have HO1 := hidd hown'
            clear happ hown' HX HOa
            go_wp2
            go_roundw
            case rel => exact ⟨k + 1, by omega, by go_num, ⟨u9, c9, rfl, HO1⟩, HF1⟩
            case measure => simp [intOf]; omega
          · have e3 : decide ((0 : Int) ≤ p) = false := decide_eq_false hp
            rw [show shf a p = p from if_neg hp] at HMV
            have HOa : Hid (Own wr w.heap.size 41 2 (.slice u' (a + k) c') (a + k) (rwF (J ++ mvd a (R.take (k + 1))))) := HOk.out.congr (fun j hj => rwF_pre (by rw [HMV, ← List.append_assoc]; exact List.prefix_append _ _) (by rw [List.length_append, mvd_len, List.length_take]; have := HA.out; omega))
            have HX : Hid (∀ j, j < 1 * 2 → ((wr.alloc (.cells #[.int .i64 p, .int .i64 t] 41)).alloc (.cells #[.int .i64 p, .int .i64 t] 41)).cell? ⟨wr.heap.size + 1, j, none⟩ = some (rwF (J ++ mvd a (R.take (k + 1))) ((a + k) * 2 + j))) := fun j hj => by
              have := rw_cells (wr.alloc (.cells #[.int .i64 p, .int .i64 t] 41)) (J ++ mvd a (R.take k)) p t (n := a + k) (by rw [List.length_append, mvd_len, List.length_take]; have := HA.out; omega) j hj
              rw [World.size_alloc] at this
              rw [HMV, ← List.append_assoc]
              exact this
            clear HOk HMV h2 hkR
            go_wp2_with (at_builtin; refine wpList_app _ rfl _ _ 22 rfl w.heap.size 41 (.agg #[.int .i64 0, .int .i64 0]) 2 16 Try.underlying22 infoR rfl (by decide) _ (a + k) (rwF (J ++ mvd a (R.take (k + 1)))) rfl ((HOa.out.kept (fresh_alloc _ _)).kept (fresh_alloc _ _)) _ 1 1 rfl HX.out (fun j _ => rwF_one _ _) (by decide) (by unfold maxLen; omega) (by omega) (by simp; omega) ?_)
            intro v' w1 hown' happ
            have HF1 := hidd (happ.below ((HBk.out.alloc hsz _).alloc (by simp; omega) _) ((HOa.out.kept (fresh_alloc _ _)).kept (fresh_alloc _ _)) (Nat.le_refl _) (by simp; omega))
            obtain ⟨u9, c9, rfl, _⟩ := hown'.rd
            have HO1 := hidd hown'
            clear happ hown' HX HOa
            go_wp2
            go_roundw
            case rel => exact ⟨k + 1, by omega, by go_num, ⟨u9, c9, rfl, HO1⟩, HF1⟩
            case measure => simp [intOf]; omega
        · obtain rfl : k = n := by omega
          have HFI : Hid (∃ u c, Value.slice u' (a + k) c' = .slice u (jn X (i + 1)).length c ∧ Hid (Own wr w.heap.size 41 2 (.slice u (jn X (i + 1)).length c) (jn X (i + 1)).length (rwF (jn X (i + 1))))) := by
            have e5 : (jn X (i + 1)).length = a + k := by rw [HNX.out, List.length_append, mvd_len, ← HA.out, ← HN.out]
            have := HOk.out
            rw [List.take_of_length_le (by have := HN.out; omega), ← HNX.out] at this
            exact ⟨u', c', by rw [e5], by rw [e5]; exact this⟩
          go_wp2
          go_roundw
          case rel => exact ⟨i + 1, by omega, by go_num, HFI.out, HBk⟩
          case measure => simp [intOf]; omega
    · obtain rfl : i = m := by omega
      go_wp2
      go_ret
      exact ⟨u, c, rfl, HO.out, HB.out⟩
end Go.Proofs.Ytakekdbclmgeoab
