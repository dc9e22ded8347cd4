import Derived.Test.YtakekdbclmgeoaaClSrG
namespace Go.Proofs.Ytakekdbclmgeoaa.Cl
open Go.RowKit
/-! The stable sort itself: blocks of 20, then merged. -/
/-- what lies from a to b has been there before -/
def Part (d f : Nat → Nat) (a b : Nat) : Prop := ∀ i, a ≤ i → i < b → ∃ j, a ≤ j ∧ j < b ∧ f i = d j
/-- the block k of size s: from what lay in it, in order -/
def Blk (K : Nat → Int) (d f : Nat → Nat) (s N k : Nat) : Prop := Part d f (k * s) (min (k * s + s) N) ∧ Srt K f (k * s) (min (k * s + s) N)
theorem Blk.none {K : Nat → Int} {d f : Nat → Nat} {s N k : Nat} (h : N ≤ k * s) : Blk K d f s N k := ⟨fun i h1 h2 => absurd h2 (by omega), fun u v h1 h2 h3 => absurd h3 (by omega)⟩
theorem Blk.congr {K : Nat → Int} {d f f' : Nat → Nat} {s N k : Nat} (h : Blk K d f s N k) (e : ∀ u, k * s ≤ u → u < min (k * s + s) N → f' u = f u) : Blk K d f' s N k := ⟨fun i h1 h2 => by rw [e i h1 h2]; exact h.1 i h1 h2, h.2.congr e⟩
/-- the first k blocks are in order, the others as they were at the loop's start -/
structure Mid (K : Nat → Int) (d g f : Nat → Nat) (s N k : Nat) : Prop where
  same : ∀ u, k * s ≤ u → f u = g u
  blk : ∀ l, l < k → Blk K d f s N l
  fr : Fr d f 0 N
theorem Mid.start {K : Nat → Int} {d g : Nat → Nat} {s N : Nat} (hg : Fr d g 0 N) : Mid K d g g s N 0 := ⟨fun _ _ => rfl, fun l hl => absurd hl (by omega), hg⟩
theorem Mid.step {K : Nat → Int} {d g f f' : Nat → Nat} {s N k : Nat} (h : Mid K d g f s N k) (hp : Part d g (k * s) (min (k * s + s) N)) (hf : Fr f f' (k * s) (min (k * s + s) N)) (hs : Srt K f' (k * s) (min (k * s + s) N)) : Mid K d g f' s N (k + 1) := by
  refine ⟨fun u hu => ?_, fun l hl => ?_, h.fr.trans (hf.wide (Nat.zero_le _) (by omega))⟩
  · rw [Nat.succ_mul] at hu
    rw [hf.out u (by omega), h.same u (by omega)]
  · by_cases e : l = k
    · subst e
      refine ⟨fun i h1 h2 => ?_, hs⟩
      obtain ⟨j, j1, j2, ej⟩ := hf.inn i h1 h2
      rw [ej, h.same j j1]
      exact hp j j1 j2
    · have q : l * s + s ≤ k * s := by
        have := Nat.mul_le_mul_right s (show l + 1 ≤ k by omega)
        rwa [Nat.succ_mul] at this
      exact (h.blk l (by omega)).congr (fun u u1 u2 => hf.out u (by omega))
/-- every block is in order -/
structure Stb (K : Nat → Int) (d f : Nat → Nat) (s N : Nat) : Prop where
  fr : Fr d f 0 N
  blk : ∀ k, Blk K d f s N k
theorem Mid.all {K : Nat → Int} {d g f : Nat → Nat} {s N k : Nat} (h : Mid K d g f s N k) (hk : N ≤ k * s) : Stb K d f s N := ⟨h.fr, fun l => by
  by_cases q : l < k
  · exact h.blk l q
  · exact Blk.none (Nat.le_trans hk (Nat.mul_le_mul_right s (by omega)))⟩
/-- two blocks side by side -/
theorem Stb.two {K : Nat → Int} {d g : Nat → Nat} {s N : Nat} (h : Stb K d g s N) (k : Nat) : Srt K g (k * (2 * s)) (min (k * (2 * s) + s) N) ∧ Srt K g (k * (2 * s) + s) (min (k * (2 * s) + 2 * s) N) ∧ Part d g (k * (2 * s)) (min (k * (2 * s) + 2 * s) N) ∧ ((∀ u v, u < v → v < N → d u < d v) → ∀ u v, k * (2 * s) ≤ u → u < k * (2 * s) + s → k * (2 * s) + s ≤ v → v < min (k * (2 * s) + 2 * s) N → g u < g v) := by
  have h0 := h.blk (2 * k)
  have h1 := h.blk (2 * k + 1)
  have e0 : 2 * k * s = k * (2 * s) := by rw [Nat.mul_comm 2 k, Nat.mul_assoc]
  have e1 : (2 * k + 1) * s = k * (2 * s) + s := by rw [Nat.succ_mul, e0]
  unfold Blk at h0 h1
  rw [e0] at h0
  rw [e1] at h1
  clear e0 e1 h
  generalize k * (2 * s) = a at h0 h1 ⊢
  have e2 : a + s + s = a + 2 * s := by omega
  rw [e2] at h1
  refine ⟨h0.2, h1.2, fun i i1 i2 => ?_, fun hm u v u1 u2 v1 v2 => ?_⟩
  · by_cases q : i < a + s
    · obtain ⟨j, j1, j2, ej⟩ := h0.1 i i1 (by omega)
      exact ⟨j, j1, by omega, ej⟩
    · obtain ⟨j, j1, j2, ej⟩ := h1.1 i (by omega) i2
      exact ⟨j, by omega, j2, ej⟩
  · obtain ⟨j, j1, j2, ej⟩ := h0.1 u u1 (by omega)
    obtain ⟨l, l1, l2, el⟩ := h1.1 v v1 v2
    rw [ej, el]
    exact hm j l (by omega) (by omega)
theorem Fr.below {d f : Nat → Nat} {N M : Nat} (h : Fr d f 0 N) (hd : ∀ i, i < N → d i < M) : ∀ i, i < N → f i < M := fun i hi => by
  obtain ⟨j, _, j2, ej⟩ := h.inn i (Nat.zero_le _) hi
  rw [ej]
  exact hd j j2
set_option maxRecDepth 20000 in
set_option maxHeartbeats 8000000 in
theorem stable_any {w : World} {g N c : Nat} {d : Nat → Nat} {bx M : Nat} {K : Nat → Int} {nb o nc : Nat} (h : w.rowIs g 3 N (fun i => .int .i64 ((d i : Nat) : Int))) (hN : N ≤ 1048576) (hk : NdK w bx M K nb o nc) (h1 : bx ≠ g) (h2 : nb ≠ g) (hd : ∀ i, i < N → d i < M) (hm : ∀ u v, u < v → v < N → d u < d v) :
    Calls Try.prog 50 #[.slice (some ⟨g, 0, none⟩) N c, .int .i64 (N : Int), .func (.func 48) #[] #[.pointer (some ⟨bx, 0, none⟩)]] w fun e w' => e = .returned (.tuple #[]) ∧ ∃ d', Rw w g N d' w' ∧ Fr d d' 0 N ∧ Srt K d' 0 N := by
  have H0 := hidd (Rw.start h)
  have HK := hidd hk
  have HD := hidd hd
  have HM := hidd hm
  clear h hk hd hm
  go_enter Try.func50, Try.ntmps50
  go_wp2
  go_loopw [7, 8] (fun va vb wr => ∃ (k a b : Nat) (f : Nat → Nat), va = .int .i64 (a : Int) ∧ vb = .int .i64 (b : Int) ∧ a ≤ N ∧ Hid (a = k * 20) ∧ Hid (b = a + 20) ∧ Hid (Mid K d d f 20 N k) ∧ Hid (Rw w g N f wr)) (fun _ vb _ => N + 21 - (intOf vb).toNat)
  case atStart => exact ⟨0, 0, 20, d, rfl, rfl, Nat.zero_le _, rfl, rfl, Mid.start (Fr.refl _ _ _), H0⟩
  case round =>
    obtain ⟨k, a, b, f, rfl, rfl, haN, HA, HB, HMd, HR⟩ := hrel
    have HKr := hidd (HK.out.rw HR.out h1 h2)
    have HDf := hidd (HMd.out.fr.below HD.out)
    have HOr : Hid (∀ u v, a ≤ u → u < v → v < N → f u < f v) := fun u v u1 u2 v1 => by
      rw [HMd.out.same u (by rw [← HA.out]; exact u1), HMd.out.same v (by rw [← HA.out]; omega)]
      exact HM.out u v u2 v1
    by_cases hlt : b ≤ N
    · have i1 : (b : Int) ≤ (N : Int) := by omega
      have HI := hidd (insert_any (c := c) (a := a) (b := b) HR.out.row hN HKr.out h1 h2 (by have := HB.out; omega) hlt HDf.out (fun u v u1 u2 v1 => HOr.out u v u1 u2 (by omega)))
      obtain ⟨b2, HB2⟩ : ∃ b2, Hid (b2 = b + 20) := ⟨_, rfl⟩
      have s1 : IntKind.i64.wrap ((b : Int) + 20) = (b2 : Int) := by rw [IntKind.wrap_i64]; have := HB2.out; omega
      go_wp2_with fail
      refine HI.out.mono ?_
      rintro e w2 ⟨rfl, f2, k1, k2, k3⟩
      have HR2 := hidd (HR.out.trans k1)
      have HM2 : Hid (Mid K d d f2 20 N (k + 1)) := by
        have e1 : min (k * 20 + 20) N = b := by have := HA.out; have := HB.out; omega
        exact HMd.out.step (fun i i1 i2 => ⟨i, i1, i2, rfl⟩) (by rw [e1, ← HA.out]; exact k2) (by rw [e1, ← HA.out]; exact k3)
      have HA2 : Hid (b = (k + 1) * 20) := by have := HA.out; have := HB.out; show b = (k + 1) * 20; omega
      clear k1 k2 k3 HI
      go_wp2
      go_roundw
      case rel => exact ⟨k + 1, b, b2, f2, rfl, rfl, hlt, HA2, HB2, HM2, HR2⟩
      case measure => simp [intOf]; have := HB2.out; omega
    · have i1 : ¬ ((b : Int) ≤ (N : Int)) := by omega
      have HI := hidd (insert_any (c := c) (a := a) (b := N) HR.out.row hN HKr.out h1 h2 haN (Nat.le_refl _) HDf.out (fun u v u1 u2 v1 => HOr.out u v u1 u2 v1))
      go_wp2_with fail
      refine HI.out.mono ?_
      rintro e w2 ⟨rfl, f2, k1, k2, k3⟩
      have HR2 := hidd (HR.out.trans k1)
      have HS2 : Hid (Stb K d f2 20 N) := by
        have e1 : min (k * 20 + 20) N = N := by have := HA.out; have := HB.out; omega
        exact (HMd.out.step (f' := f2) (fun i i1 i2 => ⟨i, i1, i2, rfl⟩) (by rw [e1, ← HA.out]; exact k2) (by rw [e1, ← HA.out]; exact k3)).all (by have := HA.out; have := HB.out; omega)
      clear k1 k2 k3 HI HMd HR HKr HDf HA HB HOr i1 hlt haN
      go_wp2
      go_loopw [6, 7, 8, 9] (fun vs _ _ _ wr => ∃ (s : Nat) (f : Nat → Nat), vs = .int .i64 (s : Int) ∧ 1 ≤ s ∧ Hid (Stb K d f s N) ∧ Hid (Rw w g N f wr)) (fun vs _ _ _ _ => N - (intOf vs).toNat)
      case atStart => exact ⟨20, f2, rfl, by omega, HS2, HR2⟩
      case round =>
        clear HS2 HR2
        obtain ⟨s, g2, rfl, hs1, HS, HR⟩ := hrel
        by_cases hsN : s < N
        · have j1 : (s : Int) < (N : Int) := by omega
          obtain ⟨z, HZ⟩ : ∃ z, Hid (z = 2 * s) := ⟨_, rfl⟩
          have z1 : IntKind.i64.wrap (2 * (s : Int)) = (z : Int) := by rw [IntKind.wrap_i64]; have := HZ.out; omega
          have z2 : IntKind.i64.wrap ((s : Int) * 2) = (z : Int) := by rw [IntKind.wrap_i64]; have := HZ.out; omega
          have hz1 : 2 ≤ z := by have := HZ.out; omega
          have hzN : z ≤ 2097152 := by have := HZ.out; omega
          go_wp2
          rename World => wB
          go_loopw [7, 8] (fun va vb wr => ∃ (k a b : Nat) (f : Nat → Nat), va = .int .i64 (a : Int) ∧ vb = .int .i64 (b : Int) ∧ a ≤ N ∧ Hid (a = k * z) ∧ Hid (b = a + z) ∧ Hid (Mid K d g2 f z N k) ∧ Hid (Rw w g N f wr)) (fun _ vb _ => N + z + 1 - (intOf vb).toNat)
          case atStart => exact ⟨0, 0, z, g2, rfl, rfl, Nat.zero_le _, (Nat.zero_mul _).symm, (Nat.zero_add _).symm, Mid.start HS.out.fr, HR⟩
          case round =>
            obtain ⟨k, a, b, f, rfl, rfl, haN, HA, HB, HMd, HRf⟩ := hrel
            have HT := hidd (HS.out.two k)
            rw [← HZ.out, ← HA.out] at HT
            have HSM := hidd HMd.out.same
            rw [← HA.out] at HSM
            obtain ⟨mm, HMM⟩ : ∃ mm, Hid (mm = a + s) := ⟨_, rfl⟩
            have m1 : IntKind.i64.wrap ((a : Int) + (s : Int)) = (mm : Int) := by rw [IntKind.wrap_i64]; have := HMM.out; omega
            have ham : a < mm := by have := HMM.out; omega
            have HKr := hidd (HK.out.rw HRf.out h1 h2)
            have HDf := hidd (HMd.out.fr.below HD.out)
            have HLR : Hid (∀ u v, a ≤ u → u < mm → mm ≤ v → v < min (a + z) N → f u < f v) := fun u v u1 u2 v1 v2 => by
              have := HMM.out
              rw [HSM.out u u1, HSM.out v (by omega)]
              exact HT.out.2.2.2 HM.out u v u1 (by omega) (by omega) v2
            have HL : Hid (mm ≤ N → Srt K f a mm) := fun q => (HT.out.1.sub (Nat.le_refl _) (by have := HMM.out; omega)).congr (fun u u1 u2 => HSM.out u u1)
            have HRr : Hid (Srt K f mm (min (a + z) N)) := by rw [HMM.out]; exact HT.out.2.1.congr (fun u u1 u2 => HSM.out u (by omega))
            by_cases hlt : b ≤ N
            · have i1 : (b : Int) ≤ (N : Int) := by omega
              have HE1 : Hid (min (a + z) N = b) := by have := HB.out; show min (a + z) N = b; omega
              rw [HE1.out] at HLR HRr
              have HI := hidd (symm_any (c := c) hN h1 h2 (b - a) a mm b rfl ham (by have := HB.out; have := HMM.out; have := HZ.out; omega) hlt HRf.out.row HKr.out HDf.out HLR.out (HL.out (by have := HB.out; have := HMM.out; have := HZ.out; omega)) HRr.out)
              obtain ⟨b2, HB2⟩ : ∃ b2, Hid (b2 = b + z) := ⟨_, rfl⟩
              have s1 : IntKind.i64.wrap ((b : Int) + (z : Int)) = (b2 : Int) := by rw [IntKind.wrap_i64]; have := HB2.out; omega
              go_wp2_with fail
              refine HI.out.mono ?_
              rintro e w2 ⟨rfl, f2, k1, k2, k3⟩
              have HR2 := hidd (HRf.out.trans k1)
              have HM2 : Hid (Mid K d g2 f2 z N (k + 1)) := HMd.out.step (by rw [← HA.out]; exact HT.out.2.2.1) (by rw [← HA.out, HE1.out]; exact k2) (by rw [← HA.out, HE1.out]; exact k3)
              have HA2 : Hid (b = (k + 1) * z) := by show b = (k + 1) * z; rw [Nat.succ_mul, ← HA.out]; exact HB.out
              clear k1 k2 k3 HI
              go_wp2
              go_roundw
              case rel => exact ⟨k + 1, b, b2, f2, rfl, rfl, hlt, HA2, HB2, HM2, HR2⟩
              case measure => simp [intOf]; have := HB2.out; omega
            · have i1 : ¬ ((b : Int) ≤ (N : Int)) := by omega
              have HE1 : Hid (min (a + z) N = N) := by have := HB.out; show min (a + z) N = N; omega
              rw [HE1.out] at HLR HRr
              have HLE : Hid (N ≤ (k + 1) * z) := by show N ≤ (k + 1) * z; rw [Nat.succ_mul, ← HA.out]; have := HB.out; omega
              have HPA : Hid (Part d g2 (k * z) (min (k * z + z) N)) := by rw [← HA.out]; exact HT.out.2.2.1
              by_cases hmN : mm < N
              · have n1 : (mm : Int) < (N : Int) := by omega
                have HI := hidd (symm_any (c := c) hN h1 h2 (N - a) a mm N rfl ham hmN (Nat.le_refl _) HRf.out.row HKr.out HDf.out HLR.out (HL.out (by omega)) HRr.out)
                go_wp2_with fail
                refine HI.out.mono ?_
                rintro e w2 ⟨rfl, f2, k1, k2, k3⟩
                have HR2 := hidd (HRf.out.trans k1)
                have HS2 : Hid (Stb K d f2 z N) := (HMd.out.step HPA.out (by rw [← HA.out, HE1.out]; exact k2) (by rw [← HA.out, HE1.out]; exact k3)).all HLE.out
                clear k1 k2 k3 HI
                go_wp2
                go_roundw
                case rel => exact ⟨z, f2, rfl, by omega, HS2, HR2⟩
                case measure => simp [intOf]; have := HZ.out; omega
              · have n1 : ¬ ((mm : Int) < (N : Int)) := by omega
                have HSN : Hid (Srt K f a N) := (HT.out.1.sub (Nat.le_refl _) (by have := HMM.out; omega)).congr (fun u u1 u2 => HSM.out u u1)
                have HS2 : Hid (Stb K d f z N) := (HMd.out.step HPA.out (Fr.refl _ _ _) (by rw [← HA.out, HE1.out]; exact HSN.out)).all HLE.out
                go_wp2
                go_roundw
                case rel => exact ⟨z, f, rfl, by omega, HS2, HRf⟩
                case measure => simp [intOf]; have := HZ.out; omega
        · have j1 : ¬ ((s : Int) < (N : Int)) := by omega
          have HEND : Hid (Srt K g2 0 N) := by
            have q := (HS.out.blk 0).2
            rw [Nat.zero_mul, Nat.zero_add] at q
            exact q.sub (Nat.le_refl _) (by omega)
          go_wp2
          go_end0
          exact ⟨rfl, g2, HR.out, HS.out.fr, HEND.out⟩
end Go.Proofs.Ytakekdbclmgeoaa.Cl
