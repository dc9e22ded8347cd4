import Derived.Test.YtppcgfdogacmkaaPJ
namespace Go.Proofs.Ytppcgfdogacmkaa
open Go.RowKit
/-! PoolGrows. -/
theorem takes_le {B : Nat} {c : Nat → Nat} (h : ∀ b, c b ≤ 1) : ∀ k b, takesC B c k b ≤ 1
  | 0, b => h b
  | k + 1, b => by
    show updN (takesC B c k) (lowF (takesC B c k) B) 1 b ≤ 1
    unfold updN
    split
    · exact Nat.le_refl _
    · exact takes_le h k b
structure GrownF (x : Fx) (s : Dy) (N fr : Nat) : Prop where
  m : s.m 0 = N
  free : freeN s.cnt x.B + N = fr
  lt : ∀ j, j < N → s.bl 0 j < x.B
  one : ∀ j, j < N → s.cnt (s.bl 0 j) = 1
  ne : ∀ i j, i < j → j < N → s.bl 0 i ≠ s.bl 0 j
  le : ∀ b, s.cnt b ≤ 1
theorem grownF {x : Fx} {s : Dy} {N fr : Nat} {v : Value} (h0 : s.m 0 = 0) (hc : ∀ b, s.cnt b ≤ 1) (hfr : freeN s.cnt x.B = fr) (hN : N ≤ fr) : GrownF x (s.grown x 0 N v) N fr := by
  have e : ∀ j, (s.grown x 0 N v).bl 0 j = tk x.B s.cnt j := fun j => by
    show updA s.bl 0 (extB (s.bl 0) (s.m 0) (tk x.B s.cnt)) 0 j = _
    rw [updA_at, h0]
    have := extB_at (bl := s.bl 0) (m := 0) (more := tk x.B s.cnt) j
    rwa [Nat.zero_add] at this
  have ec : (s.grown x 0 N v).cnt = takesC x.B s.cnt N := by
    show takesC x.B s.cnt (N - s.m 0) = _
    rw [h0, Nat.sub_zero]
  refine ⟨?_, ?_, fun j hj => ?_, fun j hj => ?_, fun i j hi hj => ?_, fun b => ?_⟩
  · show updN s.m 0 (s.m 0 + (N - s.m 0)) 0 = N
    rw [updN_at, h0]; omega
  · rw [ec]; have := takes_free (B := x.B) (c := s.cnt) N (by omega); omega
  · rw [e]; exact (tk_lt (by omega)).1
  · rw [e, ec]; exact takes_one N hj (by omega)
  · rw [e, e]; exact tk_ne (by omega) hi
  · rw [ec]; exact takes_le hc N b
theorem grow_st {x : Fx} {w : World} {s : Dy} {n fr : Nat} (h : St x w s) (ht : x.tn = 1) (h0 : s.m 0 = 0) (hc : ∀ b, s.cnt b ≤ 1) (hfr : freeN s.cnt x.B = fr) (hn : n ≤ 9223372036854775807) (hN : needs n x.S ≤ fr) :
    Calls Try.prog 17 #[.pointer (some ⟨x.tb 0, 0, none⟩), .int .i64 n] w fun e w' => e = .returned (.int .i64 0) ∧ w'.cell? ⟨x.lb, 0, none⟩ = some (.pointer (some ⟨x.tb 0, 0, none⟩)) ∧ Hid (∃ s', St x w' s' ∧ GrownF x s' (needs n x.S) fr) := by
  refine (h.grow (i := 0) (n := n) (by omega) (by omega) hn (by omega)).mono ?_
  rintro e w' ⟨rfl, v, h1⟩
  exact ⟨rfl, h1.cell (by omega), _, h1, grownF h0 hc hfr hN⟩
theorem needs_mono {a b S : Nat} (h : a ≤ b) : needs a S ≤ needs b S := by
  unfold needs
  have h1 := Nat.div_le_div_right (c := S) h
  have h2 := Nat.div_add_mod a S
  have h3 := Nat.div_add_mod b S
  by_cases e : a / S = b / S
  · rw [e] at h2 ⊢
    have : a % S ≤ b % S := by omega
    split
    · omega
    · rw [if_neg (by omega)]; omega
  · split <;> split <;> omega
theorem needs_small {n S B : Nat} (hS : 1 ≤ S ∧ S ≤ 6) (hB : B ≤ 17) (h : needs n S ≤ B) : n ≤ 102 := by
  unfold needs at h
  have h3 := Nat.div_add_mod n S
  have h4 := Nat.mod_lt n (show 0 < S by omega)
  have h5 : n / S ≤ 17 := by omega
  have h6 := Nat.mul_le_mul hS.2 h5
  by_cases e : n % S = 0
  · omega
  · rw [if_neg e] at h
    have h7 := Nat.mul_le_mul hS.2 (show n / S ≤ 16 by omega)
    omega
theorem trim_st {x : Fx} {w : World} {s : Dy} {n N fr : Nat} (h : St x w s) (ht : x.tn = 1) (g : GrownF x s N fr) (hN : N ≤ 1000) (hn : n ≤ 9223372036854775807) (hK : needs n x.S ≤ N) :
    Calls Try.prog 22 #[.pointer (some ⟨x.tb 0, 0, none⟩), .int .i64 n] w fun e w' => e = .returned (.int .i64 0) ∧ w'.cell? ⟨x.lb, 0, none⟩ = some (.pointer (some ⟨x.tb 0, 0, none⟩)) ∧ Hid (∃ s', St x w' s' ∧ s'.m 0 = needs n x.S ∧ s'.bl 0 = s.bl 0 ∧ freeN s'.cnt x.B + needs n x.S = fr) ∧ Chg w w' (fun b => b < x.base) := by
  have hT := h.T 0 (by omega)
  refine (trim_any h.P hT (by rw [g.m]; omega) hn (by rw [g.m]; exact g.lt) (fun b _ => Nat.le_trans (g.le b) (by decide)) h.lt.1 h.lt.2.1 h.lt.2.2.1 (rowIs_apart hT.row h.P.cnts (by decide))).mono ?_
  rintro e w' ⟨rfl, v, h1, h2, h3, h4⟩
  have hst := h.step (i := 0) (by omega) h3 h1 (h4.imp (fun b _ e => e.elim Or.inl (fun e => Or.inr (Or.inl e)))) (fun k hk => .inl (h2 ▸ hk))
  refine ⟨rfl, hst.cell (by omega), ⟨_, hst, ?_, ?_, ?_⟩, h4.imp (fun b _ e => by
    have := hT.lt
    have := h.lt
    rcases e with e | e <;> omega)⟩
  · show updN s.m 0 (min (s.m 0) (needs n x.S)) 0 = _
    rw [updN_at, g.m]; omega
  · show updA s.bl 0 (s.bl 0) 0 = _
    rw [updA_at]
  · show freeN (drops (s.bl 0) (s.m 0) (s.m 0 - needs n x.S) s.cnt) x.B + _ = _
    rw [g.m, drops_free (s.bl 0) N x.B s.cnt (N - needs n x.S) (by omega) (fun i _ hi => ⟨g.lt i hi, g.one i hi⟩) g.ne]
    have := g.free
    omega
theorem slots_ne {S N i j : Nat} {bl : Nat → Nat} (hS : 1 ≤ S) (hne : ∀ i j, i < j → j < N → bl i ≠ bl j) (hij : j < i) (hi : i < N * S) : bl (j / S) * S + j % S ≠ bl (i / S) * S + i % S := fun e => by
  have h1 := Nat.mod_lt j (show 0 < S by omega)
  have h2 := Nat.mod_lt i (show 0 < S by omega)
  have d : ∀ a r, r < S → (a * S + r) / S = a := fun a r hr => by
    rw [Nat.mul_comm, Nat.mul_add_div (by omega), Nat.div_eq_of_lt hr, Nat.add_zero]
  have e1 := congrArg (· / S) e
  simp only [d _ _ h1, d _ _ h2] at e1
  have h3 : j / S = i / S := by
    have hj := Nat.div_le_div_right (c := S) (Nat.le_of_lt hij)
    have hi2 : i / S < N := (Nat.div_lt_iff_lt_mul (by omega)).2 hi
    rcases Nat.lt_or_eq_of_le hj with k | k
    · exact absurd e1 (hne _ _ k hi2)
    · exact k
  have h4 := Nat.div_add_mod j S
  have h5 := Nat.div_add_mod i S
  rw [e1] at e
  rw [h3] at h4
  omega
theorem slot_quo {a r S : Nat} (h : r < S) : (a * S + r) / S = a := by
  rw [Nat.mul_comm, Nat.mul_add_div (by omega), Nat.div_eq_of_lt h, Nat.add_zero]
theorem slot_rem {a r S : Nat} (h : r < S) : (a * S + r) % S = r := by
  rw [Nat.mul_comm, Nat.mul_add_mod, Nat.mod_eq_of_lt h]
end Go.Proofs.Ytppcgfdogacmkaa
