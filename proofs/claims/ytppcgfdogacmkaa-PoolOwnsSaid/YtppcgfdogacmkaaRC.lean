import Derived.Test.YtppcgfdogacmkaaRB
namespace Go.Proofs.Ytppcgfdogacmkaa
open Go.RowKit
/-! Two tables that share: the calls. -/
theorem St.slot {x : Fx} {w : World} {s : Dy} (h : St x w s) {i n : Nat} (hi : i < x.tn) (hm : s.m i ≤ 1000000000) (hn : n ≤ 1000000) (hp : n / x.S < s.m i) (hb : s.bl i (n / x.S) < x.B) :
    Calls Try.prog 20 #[.pointer (some ⟨x.tb i, 0, none⟩), .int .i64 n] w fun e w' => e = .returned (.tuple #[.int .i64 ((slo (s.bl i) x.S n : Nat) : Int), .int .i64 0]) ∧ Below w.heap.size w w' := by
  have hB := h.P.hB
  exact slot_any (h.T i hi) h.P.hS (by omega) (by omega) hp (by omega)
theorem OwI.extend {B S N LG : Nat} {s : Dy} {V1 V2 nv : Nat → Int} (h : OwI B S N LG s V1 V2) (hS : 0 < S) (hN : ∀ i, i ≤ LG → i / S < N) (hs : ∀ j, j < N → s.bl 1 j = s.bl 0 j) :
    OwI B S N (LG + 1) { s with num := setS s.num (slo (s.bl 0) S LG * 12) nv } (setS V1 (LG * 12) nv) (setS V2 (LG * 12) nv) := by
  have key : ∀ i, i < LG → slo (s.bl 0) S i ≠ slo (s.bl 0) S LG := fun i hi k => by
    obtain ⟨q1, q2⟩ := slo_eq hS k
    have hle := Nat.div_le_div_right (c := S) (Nat.le_of_lt hi)
    have q3 : i / S = LG / S := by
      rcases Nat.lt_or_eq_of_le hle with x | x
      · exact absurd q1 (h.ne0 _ _ x (hN LG (Nat.le_refl _)))
      · exact x
    have q4 := Nat.div_add_mod i S
    have q5 := Nat.div_add_mod LG S
    rw [q3] at q4
    omega
  have sl : ∀ i, i ≤ LG → slo (s.bl 1) S i = slo (s.bl 0) S i := fun i hi => by unfold slo; rw [hs _ (hN i hi)]
  refine ⟨h.m0, h.m1, h.lt0, h.lt1, h.ne0, h.ne1, h.al, h.cnt, fun i hi j hj => ?_, fun i hi j hj => ?_⟩
  · show setS V1 (LG * 12) nv (i * 12 + j) = setS s.num (slo (s.bl 0) S LG * 12) nv (slo (s.bl 0) S i * 12 + j)
    by_cases e : i = LG
    · subst e; rw [setS_in hj, setS_in hj]
    · rw [setS_far e hj, setS_far (key i (by omega)) hj]; exact h.v1 i (by omega) j hj
  · show setS V2 (LG * 12) nv (i * 12 + j) = setS s.num (slo (s.bl 0) S LG * 12) nv (slo (s.bl 1) S i * 12 + j)
    rw [sl i (by omega)]
    by_cases e : i = LG
    · subst e; rw [setS_in hj, setS_in hj]
    · rw [setS_far e hj, setS_far (key i (by omega)) hj, ← sl i (by omega)]; exact h.v2 i (by omega) j hj
/-- the first table grown, nothing else -/
structure GrI (x : Fx) (s : Dy) (N : Nat) : Prop where
  m0 : s.m 0 = N
  m1 : s.m 1 = 0
  lt0 : ∀ j, j < N → s.bl 0 j < x.B
  ne0 : ∀ i j, i < j → j < N → s.bl 0 i ≠ s.bl 0 j
  cnt : ∀ b, b < x.B → s.cnt b = tms (s.bl 0) b N
theorem grI {x : Fx} {N : Nat} {v : Value} (hN : N ≤ x.B) : GrI x (Dy.zero.grown x 0 N v) N := by
  have g := grownF (x := x) (s := Dy.zero) (N := N) (fr := x.B) (v := v) rfl (fun _ => Nat.zero_le _) (freeN_zero x.B) hN
  have e : ∀ j, (Dy.zero.grown x 0 N v).bl 0 j = tk x.B Dy.zero.cnt j := fun j => by
    show updA Dy.zero.bl 0 (extB (Dy.zero.bl 0) (Dy.zero.m 0) (tk x.B Dy.zero.cnt)) 0 j = _
    rw [updA_at]
    have := extB_at (bl := Dy.zero.bl 0) (m := 0) (more := tk x.B Dy.zero.cnt) j
    rwa [Nat.zero_add] at this
  refine ⟨g.m, ?_, g.lt, g.ne, fun b hb => ?_⟩
  · show updN Dy.zero.m 0 (Dy.zero.m 0 + (N - Dy.zero.m 0)) 1 = 0
    rw [updN_ne _ _ (by decide)]; rfl
  · show takesC x.B Dy.zero.cnt (N - Dy.zero.m 0) b = _
    have hz : freeN Dy.zero.cnt x.B = x.B := freeN_zero x.B
    rw [show N - Dy.zero.m 0 = N from rfl, takesC_eq b N (by omega), tms_congr (f := (Dy.zero.grown x 0 N v).bl 0) (g := tk x.B Dy.zero.cnt) (fun j _ => e j)]
    show 0 + _ = _
    omega
theorem St.share1 {x : Fx} {w : World} {s : Dy} {N wb : Nat} (h : St x w s) (ht : x.tn = 2) (g : GrI x s N) (hN : N ≤ x.B) {ao : Option Addr} {cap : Nat} (hO : Own w wb 3 1 (.slice ao N cap) N (fun q => .int .i64 (s.bl 0 q))) (hwb : x.base ≤ wb) (hvb : ∀ k, (s.v 1).ownBlock = some k → k < wb) :
    Calls Try.prog 26 #[.pointer (some ⟨x.tb 1, 0, none⟩), .slice ao N cap] w fun e w' => e = .returned (.int .i64 0) ∧ ∃ s', St x w' s' ∧ OwI x.B x.S N 0 s' (fun _ => 0) (fun _ => 0) ∧ (∀ j, j < N → s'.bl 1 j = s'.bl 0 j) := by
  have hB := h.P.hB
  have hT := h.T 1 (by omega)
  rw [g.m1] at hT
  obtain ⟨a2, k2, hv2, hrd⟩ := hO.rd
  simp only [Value.slice.injEq] at hv2
  obtain ⟨rfl, _, rfl⟩ := hv2
  refine (share_ok h.P hT hrd (fun q hq => ⟨g.lt0 q hq, by have := g.cnt _ (g.lt0 q hq); have := tms_one g.ne0 hq; omega⟩) g.ne0 (by omega) (fun b hb => by have := g.cnt b hb; have := tms_le (f := s.bl 0) (b := b) N; omega) h.lt.1 h.lt.2.1 h.lt.2.2.1 h.bs (fun b off e => ?_)).mono ?_
  · subst e
    rcases own_cases hO with ⟨k, _⟩ | ⟨g9, c9, k⟩
    · simp at k
    · simp only [Value.slice.injEq, Option.some.injEq, Addr.mk.injEq] at k
      obtain ⟨⟨rfl, _⟩, _⟩ := k
      have q := hO.lt b (by simp only [Value.ownBlock])
      have q1 := hT.lt
      have q2 := h.lt.2.1
      refine ⟨by omega, by omega, fun e => ?_, q.2⟩
      have := hvb _ e
      omega
  · rintro e w' ⟨rfl, v, k1, k2, k3, k4⟩
    refine ⟨rfl, _, h.step (i := 1) (by omega) k2 k1 (k3.imp (fun b _ e => e.elim Or.inl (fun e => e.elim (fun e => Or.inr (Or.inl e)) (fun e => Or.inr (Or.inr (Or.inr e)))))) k4, ?_, ?_⟩
    · have e0 : updA s.bl 1 (s.bl 0) 0 = s.bl 0 := updA_ne _ _ (by decide)
      have e1 : updA s.bl 1 (s.bl 0) 1 = s.bl 0 := updA_at _ _ _
      refine ⟨?_, ?_, ?_, ?_, ?_, ?_, ?_, ?_, fun i hi => absurd hi (by omega), fun i hi => absurd hi (by omega)⟩
      · show updN s.m 1 N 0 = N
        rw [updN_ne _ _ (by decide)]; exact g.m0
      · show updN s.m 1 N 1 = N
        rw [updN_at]
      · show ∀ j, j < N → updA s.bl 1 (s.bl 0) 0 j < x.B
        rw [e0]; exact g.lt0
      · show ∀ j, j < N → updA s.bl 1 (s.bl 0) 1 j < x.B
        rw [e1]; exact g.lt0
      · show ∀ i j, i < j → j < N → updA s.bl 1 (s.bl 0) 0 i ≠ updA s.bl 1 (s.bl 0) 0 j
        rw [e0]; exact g.ne0
      · show ∀ i j, i < j → j < N → updA s.bl 1 (s.bl 0) 1 i ≠ updA s.bl 1 (s.bl 0) 1 j
        rw [e1]; exact g.ne0
      · show ∀ i j, i < N → j < N → updA s.bl 1 (s.bl 0) 1 j = updA s.bl 1 (s.bl 0) 0 i → i = j
        rw [e0, e1]
        intro i j hi hj e
        rcases Nat.lt_trichotomy i j with q | q | q
        · exact absurd e.symm (g.ne0 i j q hj)
        · exact q
        · exact absurd e (g.ne0 j i q hi)
      · show ∀ b, b < x.B → holdsC s.cnt (s.bl 0) N b = tms (updA s.bl 1 (s.bl 0) 0) b N + tms (updA s.bl 1 (s.bl 0) 1) b N
        rw [e0, e1]
        intro b hb
        rw [holdsC_eq b, g.cnt b hb]
    · show ∀ j, j < N → updA s.bl 1 (s.bl 0) 1 j = updA s.bl 1 (s.bl 0) 0 j
      rw [updA_at, updA_ne _ _ (by decide)]
      exact fun _ _ => rfl
/-- Own by the second table: a block of its own, then -/
theorem St.own1 {x : Fx} {w : World} {s : Dy} {N LG : Nat} {V1 V2 : Nat → Int} (h : St x w s) (ht : x.tn = 2) (hI : OwI x.B x.S N LG s V1 V2) (hN : N ≤ x.B) (hLG : ∀ i, i < LG → i / x.S < N) {pos : Nat} (hp : pos < LG) (hpb : pos ≤ 1000000) (hf : s.bl 0 (pos / x.S) = s.bl 1 (pos / x.S) → freeN s.cnt x.B ≠ 0) :
    Calls Try.prog 27 #[.pointer (some ⟨x.tb 1, 0, none⟩), .int .i64 pos] w fun e w' => e = .returned (.int .i64 0) ∧ (∃ s', St x w' s' ∧ OwI x.B x.S N LG s' V1 V2 ∧ s'.cnt (s'.bl 1 (pos / x.S)) = 1 ∧ (∀ i, i < N → s'.bl 0 i ≠ s'.bl 1 (pos / x.S))) ∧ Chg w w' (fun b => b = x.tb 1 ∨ b = x.cb ∨ b = x.nb ∨ (s.v 1).ownBlock = some b) := by
  have hB := h.P.hB
  have hS := h.P.hS
  have hpN := hLG pos hp
  have hT := h.T 1 (by omega)
  have hm := hI.m1
  rcases hI.two hpN with ⟨e1, e2⟩ | ⟨e1, e2, e3⟩
  · have hO : OwnH w x.g x.cb x.nb 2 3 x.B x.S x.base (x.tb 1) (s.m 1) pos (s.bl 1 (pos / x.S)) 2 s.cnt s.num (s.v 1) (s.bl 1) := ⟨h.P, hT, by omega, by omega, by omega, rfl, hI.lt1 _ hpN, e2, by decide, ⟨h.lt.1, h.lt.2.1, h.lt.2.2.1, h.bs⟩⟩
    have hfr := hf e1
    refine (own_copy hO h.geo (by decide) (by omega)).mono ?_
    rintro e w' ⟨rfl, k1, k2, k3⟩
    have hlo := lowF_lt (c := s.cnt) (B := x.B) (by omega)
    have hlo0 := (lowF_spec s.cnt x.B).1 hlo
    have hI' := hI.copy (by omega) hLG (v := s.v 1) hpN hlo hlo0 e1 e2
    refine ⟨rfl, ⟨_, h.step (i := 1) (by omega) k2 k1 k3 (fun k hk => .inl hk), hI', ?_, ?_⟩, k3⟩
    · show updN (updN s.cnt (lowF s.cnt x.B) 1) (s.bl 1 (pos / x.S)) (2 - 1) (updA s.bl 1 (updN (s.bl 1) (pos / x.S) (lowF s.cnt x.B)) 1 (pos / x.S)) = 1
      rw [updA_at, updN_at, updN_ne _ _ (fun k => by rw [← k] at e2; omega), updN_at]
    · show ∀ i, i < N → updA s.bl 1 (updN (s.bl 1) (pos / x.S) (lowF s.cnt x.B)) 0 i ≠ updA s.bl 1 (updN (s.bl 1) (pos / x.S) (lowF s.cnt x.B)) 1 (pos / x.S)
      rw [updA_at, updN_at, updA_ne _ _ (by decide)]
      intro i hi k
      have := hI.cnt _ hlo
      have := tms_pos (n := N) hi k
      omega
  · have hO : OwnH w x.g x.cb x.nb 2 3 x.B x.S x.base (x.tb 1) (s.m 1) pos (s.bl 1 (pos / x.S)) 1 s.cnt s.num (s.v 1) (s.bl 1) := ⟨h.P, hT, by omega, by omega, by omega, rfl, hI.lt1 _ hpN, e2, by decide, ⟨h.lt.1, h.lt.2.1, h.lt.2.2.1, h.bs⟩⟩
    refine (own_one hO).mono ?_
    rintro e w' ⟨rfl, f⟩
    exact ⟨rfl, ⟨s, h.fresh f, hI, e2, e3⟩, Chg.of_below _ f⟩
theorem St.own2 {x : Fx} {w : World} {s : Dy} {N LG : Nat} {V1 V2 : Nat → Int} (h : St x w s) (ht : x.tn = 2) (hI : OwI x.B x.S N LG s V1 V2) (hN : N ≤ x.B) (hLG : ∀ i, i < LG → i / x.S < N) {pos : Nat} (hp : pos < LG) (hpb : pos ≤ 1000000) (hc : s.cnt (s.bl 1 (pos / x.S)) = 1) :
    Calls Try.prog 27 #[.pointer (some ⟨x.tb 1, 0, none⟩), .int .i64 pos] w fun e w' => e = .returned (.int .i64 0) ∧ Below w.heap.size w w' := by
  have hB := h.P.hB
  have hpN := hLG pos hp
  have hm := hI.m1
  exact own_one ⟨h.P, h.T 1 (by omega), by omega, by omega, by omega, rfl, hI.lt1 _ hpN, hc, by decide, ⟨h.lt.1, h.lt.2.1, h.lt.2.2.1, h.bs⟩⟩
theorem St.own3 {x : Fx} {w : World} {s : Dy} {N LG : Nat} {V1 V2 : Nat → Int} (h : St x w s) (ht : x.tn = 2) (hI : OwI x.B x.S N LG s V1 V2) (hN : N ≤ x.B) (hLG : ∀ i, i < LG → i / x.S < N) {pos : Nat} (hp : pos < LG) (hpb : pos ≤ 1000000) (he : s.bl 0 (pos / x.S) = s.bl 1 (pos / x.S)) (hf : freeN s.cnt x.B = 0) :
    Calls Try.prog 27 #[.pointer (some ⟨x.tb 1, 0, none⟩), .int .i64 pos] w fun e w' => e = .returned (.int .i64 60) ∧ Below w.heap.size w w' := by
  have hB := h.P.hB
  have hpN := hLG pos hp
  have hm := hI.m1
  rcases hI.two hpN with ⟨_, e2⟩ | ⟨e1, _, _⟩
  · exact own_full (c := 2) ⟨h.P, h.T 1 (by omega), by omega, by omega, by omega, rfl, hI.lt1 _ hpN, e2, by decide, ⟨h.lt.1, h.lt.2.1, h.lt.2.2.1, h.bs⟩⟩ (by decide) hf
  · exact absurd he e1
end Go.Proofs.Ytppcgfdogacmkaa
