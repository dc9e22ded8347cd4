import Derived.Test.YtjjnfpeeipainaaClSrG
import Derived.Test.YtjjnfpeeipainaaKA
import Derived.Maps.Keyed
import Derived.DeepKeys5
import Derived.Deep.MidRow
import Derived.WideKeyEntry
import Derived.Deep.DeepCutAuto
import Derived.Deep.RegionHeld3
import Derived.Deep.AppendLies
import Derived.Deep.DrawnRows
import Derived.Deep.RegionLaw
import Derived.Lib.SliceRun
namespace Go.Proofs.Ytjjnfpeeipainaa.Cl
open Go.RowKit
/-! The stable sort itself: blocks of 20, then merged. -/
/-- what lies from a to b has been there before -/
def Part (d f : Nat → Nat) (a b : Nat) : Prop := ∀ i, a ≤ i → i < b → ∃ j, a ≤ j ∧ j < b ∧ f i = d j
/-- the block k of size s: from what lay in it, in order -/
def Blk (K : Nat → Int) (d f : Nat → Nat) (s N k : Nat) : Prop := Part d f (k * s) (min (k * s + s) N) ∧ Srt K f (k * s) (min (k * s + s) N)
theorem Blk.none {K : Nat → Int} {d f : Nat → Nat} {s N k : Nat} (h : N ≤ k * s) : Blk K d f s N k := ⟨fun i h1 h2 => absurd h2 (by omega), fun u v h1 h2 h3 => absurd h3 (by omega)⟩
theorem Blk.congr {K : Nat → Int} {d f f' : Nat → Nat} {s N k : Nat} (h : Blk K d f s N k) (e : ∀ u, k * s ≤ u → u < min (k * s + s) N → f' u = f u) : Blk K d f' s N k := ⟨fun i h1 h2 => by rw [e i h1 h2]; exact h.1 i h1 h2, h.2.congr e⟩
/-- the first k blocks are in order, the others as they were at the loop's start -/
structure Mid (K : Nat → Int) (d g f : Nat → Nat) (s N k : Nat) : Prop where
  same : ∀ u, k * s ≤ u → f u = g u
  blk : ∀ l, l < k → Blk K d f s N l
  fr : Fr d f 0 N
theorem Mid.start {K : Nat → Int} {d g : Nat → Nat} {s N : Nat} (hg : Fr d g 0 N) : Mid K d g g s N 0 := ⟨fun _ _ => rfl, fun l hl => absurd hl (by omega), hg⟩
theorem Mid.step {K : Nat → Int} {d g f f' : Nat → Nat} {s N k : Nat} (h : Mid K d g f s N k) (hp : Part d g (k * s) (min (k * s + s) N)) (hf : Fr f f' (k * s) (min (k * s + s) N)) (hs : Srt K f' (k * s) (min (k * s + s) N)) : Mid K d g f' s N (k + 1) := by
  refine ⟨fun u hu => ?_, fun l hl => ?_, h.fr.trans (hf.wide (Nat.zero_le _) (by omega))⟩
  · rw [Nat.succ_mul] at hu
    rw [hf.out u (by omega), h.same u (by omega)]
  · by_cases e : l = k
    · subst e
      refine ⟨fun i h1 h2 => ?_, hs⟩
      obtain ⟨j, j1, j2, ej⟩ := hf.inn i h1 h2
      rw [ej, h.same j j1]
      exact hp j j1 j2
    · have q : l * s + s ≤ k * s := by
        have := Nat.mul_le_mul_right s (show l + 1 ≤ k by omega)
        rwa [Nat.succ_mul] at this
      exact (h.blk l (by omega)).congr (fun u u1 u2 => hf.out u (by omega))
/-- every block is in order -/
structure Stb (K : Nat → Int) (d f : Nat → Nat) (s N : Nat) : Prop where
  fr : Fr d f 0 N
  blk : ∀ k, Blk K d f s N k
theorem Mid.all {K : Nat → Int} {d g f : Nat → Nat} {s N k : Nat} (h : Mid K d g f s N k) (hk : N ≤ k * s) : Stb K d f s N := ⟨h.fr, fun l => by
  by_cases q : l < k
  · exact h.blk l q
  · exact Blk.none (Nat.le_trans hk (Nat.mul_le_mul_right s (by omega)))⟩
/-- two blocks side by side -/
theorem Stb.two {K : Nat → Int} {d g : Nat → Nat} {s N : Nat} (h : Stb K d g s N) (k : Nat) : Srt K g (k * (2 * s)) (min (k * (2 * s) + s) N) ∧ Srt K g (k * (2 * s) + s) (min (k * (2 * s) + 2 * s) N) ∧ Part d g (k * (2 * s)) (min (k * (2 * s) + 2 * s) N) ∧ ((∀ u v, u < v → v < N → d u < d v) → ∀ u v, k * (2 * s) ≤ u → u < k * (2 * s) + s → k * (2 * s) + s ≤ v → v < min (k * (2 * s) + 2 * s) N → g u < g v) := by
  have h0 := h.blk (2 * k)
  have h1 := h.blk (2 * k + 1)
  have e0 : 2 * k * s = k * (2 * s) := by rw [Nat.mul_comm 2 k, Nat.mul_assoc]
  have e1 : (2 * k + 1) * s = k * (2 * s) + s := by rw [Nat.succ_mul, e0]
  unfold Blk at h0 h1
  rw [e0] at h0
  rw [e1] at h1
  clear e0 e1 h
  generalize k * (2 * s) = a at h0 h1 ⊢
  have e2 : a + s + s = a + 2 * s := by omega
  rw [e2] at h1
  refine ⟨h0.2, h1.2, fun i i1 i2 => ?_, fun hm u v u1 u2 v1 v2 => ?_⟩
  · by_cases q : i < a + s
    · obtain ⟨j, j1, j2, ej⟩ := h0.1 i i1 (by omega)
      exact ⟨j, j1, by omega, ej⟩
    · obtain ⟨j, j1, j2, ej⟩ := h1.1 i (by omega) i2
      exact ⟨j, by omega, j2, ej⟩
  · obtain ⟨j, j1, j2, ej⟩ := h0.1 u u1 (by omega)
    obtain ⟨l, l1, l2, el⟩ := h1.1 v v1 v2
    rw [ej, el]
    exact hm j l (by omega) (by omega)
theorem Fr.below {d f : Nat → Nat} {N M : Nat} (h : Fr d f 0 N) (hd : ∀ i, i < N → d i < M) : ∀ i, i < N → f i < M := fun i hi => by
  obtain ⟨j, _, j2, ej⟩ := h.inn i (Nat.zero_le _) hi
  rw [ej]
  exact hd j j2
set_option maxRecDepth 20000 in
set_option maxHeartbeats 8000000 in
theorem stable_any {w : World} {g N c : Nat} {d : Nat → Nat} {bx M : Nat} {K : Nat → Int} {nb o nc : Nat} (h : w.rowIs g 3 N (fun i => .int .i64 ((d i : Nat) : Int))) (hN : N ≤ 1048576) (hk : NdK w bx M K nb o nc) (h1 : bx ≠ g) (h2 : nb ≠ g) (hd : ∀ i, i < N → d i < M) (hm : ∀ u v, u < v → v < N → d u < d v) :
    Calls Try.prog 79 #[.slice (some ⟨g, 0, none⟩) N c, .int .i64 (N : Int), .func (.func 61) #[] #[.pointer (some ⟨bx, 0, none⟩)]] w fun e w' => e = .returned (.tuple #[]) ∧ ∃ d', Rw w g N d' w' ∧ Fr d d' 0 N ∧ Srt K d' 0 N := by
  have H0 := hidd (Rw.start h)
  have HK := hidd hk
  have HD := hidd hd
  have HM := hidd hm
  clear h hk hd hm
  go_enter Try.func79, Try.ntmps79
  go_wp2
  go_loopw [7, 8] (fun va vb wr => ∃ (k a b : Nat) (f : Nat → Nat), va = .int .i64 (a : Int) ∧ vb = .int .i64 (b : Int) ∧ a ≤ N ∧ Hid (a = k * 20) ∧ Hid (b = a + 20) ∧ Hid (Mid K d d f 20 N k) ∧ Hid (Rw w g N f wr)) (fun _ vb _ => N + 21 - (intOf vb).toNat)
  case atStart => exact ⟨0, 0, 20, d, rfl, rfl, Nat.zero_le _, rfl, rfl, Mid.start (Fr.refl _ _ _), H0⟩
  case round =>
    obtain ⟨k, a, b, f, rfl, rfl, haN, HA, HB, HMd, HR⟩ := hrel
    have HKr := hidd (HK.out.rw HR.out h1 h2)
    have HDf := hidd (HMd.out.fr.below HD.out)
    have HOr : Hid (∀ u v, a ≤ u → u < v → v < N → f u < f v) := fun u v u1 u2 v1 => by
      rw [HMd.out.same u (by rw [← HA.out]; exact u1), HMd.out.same v (by rw [← HA.out]; omega)]
      exact HM.out u v u2 v1
    by_cases hlt : b ≤ N
    · have i1 : (b : Int) ≤ (N : Int) := by omega
      have HI := hidd (insert_any (c := c) (a := a) (b := b) HR.out.row hN HKr.out h1 h2 (by have := HB.out; omega) hlt HDf.out (fun u v u1 u2 v1 => HOr.out u v u1 u2 (by omega)))
      obtain ⟨b2, HB2⟩ : ∃ b2, Hid (b2 = b + 20) := ⟨_, rfl⟩
      have s1 : IntKind.i64.wrap ((b : Int) + 20) = (b2 : Int) := by rw [IntKind.wrap_i64]; have := HB2.out; omega
      go_wp2_with fail
      refine HI.out.mono ?_
      rintro e w2 ⟨rfl, f2, k1, k2, k3⟩
      have HR2 := hidd (HR.out.trans k1)
      have HM2 : Hid (Mid K d d f2 20 N (k + 1)) := by
        have e1 : min (k * 20 + 20) N = b := by have := HA.out; have := HB.out; omega
        exact HMd.out.step (fun i i1 i2 => ⟨i, i1, i2, rfl⟩) (by rw [e1, ← HA.out]; exact k2) (by rw [e1, ← HA.out]; exact k3)
      have HA2 : Hid (b = (k + 1) * 20) := by have := HA.out; have := HB.out; show b = (k + 1) * 20; omega
      clear k1 k2 k3 HI
      go_wp2
      go_roundw
      case rel => exact ⟨k + 1, b, b2, f2, rfl, rfl, hlt, HA2, HB2, HM2, HR2⟩
      case measure => simp [intOf]; have := HB2.out; omega
    · have i1 : ¬ ((b : Int) ≤ (N : Int)) := by omega
      have HI := hidd (insert_any (c := c) (a := a) (b := N) HR.out.row hN HKr.out h1 h2 haN (Nat.le_refl _) HDf.out (fun u v u1 u2 v1 => HOr.out u v u1 u2 v1))
      go_wp2_with fail
      refine HI.out.mono ?_
      rintro e w2 ⟨rfl, f2, k1, k2, k3⟩
      have HR2 := hidd (HR.out.trans k1)
      have HS2 : Hid (Stb K d f2 20 N) := by
        have e1 : min (k * 20 + 20) N = N := by have := HA.out; have := HB.out; omega
        exact (HMd.out.step (f' := f2) (fun i i1 i2 => ⟨i, i1, i2, rfl⟩) (by rw [e1, ← HA.out]; exact k2) (by rw [e1, ← HA.out]; exact k3)).all (by have := HA.out; have := HB.out; omega)
      clear k1 k2 k3 HI HMd HR HKr HDf HA HB HOr i1 hlt haN
      go_wp2
      go_loopw [6, 7, 8, 9] (fun vs _ _ _ wr => ∃ (s : Nat) (f : Nat → Nat), vs = .int .i64 (s : Int) ∧ 1 ≤ s ∧ Hid (Stb K d f s N) ∧ Hid (Rw w g N f wr)) (fun vs _ _ _ _ => N - (intOf vs).toNat)
      case atStart => exact ⟨20, f2, rfl, by omega, HS2, HR2⟩
      case round =>
        clear HS2 HR2
        obtain ⟨s, g2, rfl, hs1, HS, HR⟩ := hrel
        by_cases hsN : s < N
        · have j1 : (s : Int) < (N : Int) := by omega
          obtain ⟨z, HZ⟩ : ∃ z, Hid (z = 2 * s) := ⟨_, rfl⟩
          have z1 : IntKind.i64.wrap (2 * (s : Int)) = (z : Int) := by rw [IntKind.wrap_i64]; have := HZ.out; omega
          have z2 : IntKind.i64.wrap ((s : Int) * 2) = (z : Int) := by rw [IntKind.wrap_i64]; have := HZ.out; omega
          have hz1 : 2 ≤ z := by have := HZ.out; omega
          have hzN : z ≤ 2097152 := by have := HZ.out; omega
          go_wp2
          rename World => wB
          go_loopw [7, 8] (fun va vb wr => ∃ (k a b : Nat) (f : Nat → Nat), va = .int .i64 (a : Int) ∧ vb = .int .i64 (b : Int) ∧ a ≤ N ∧ Hid (a = k * z) ∧ Hid (b = a + z) ∧ Hid (Mid K d g2 f z N k) ∧ Hid (Rw w g N f wr)) (fun _ vb _ => N + z + 1 - (intOf vb).toNat)
          case atStart => exact ⟨0, 0, z, g2, rfl, rfl, Nat.zero_le _, (Nat.zero_mul _).symm, (Nat.zero_add _).symm, Mid.start HS.out.fr, HR⟩
          case round =>
            obtain ⟨k, a, b, f, rfl, rfl, haN, HA, HB, HMd, HRf⟩ := hrel
            have HT := hidd (HS.out.two k)
            rw [← HZ.out, ← HA.out] at HT
            have HSM := hidd HMd.out.same
            rw [← HA.out] at HSM
            obtain ⟨mm, HMM⟩ : ∃ mm, Hid (mm = a + s) := ⟨_, rfl⟩
            have m1 : IntKind.i64.wrap ((a : Int) + (s : Int)) = (mm : Int) := by rw [IntKind.wrap_i64]; have := HMM.out; omega
            have ham : a < mm := by have := HMM.out; omega
            have HKr := hidd (HK.out.rw HRf.out h1 h2)
            have HDf := hidd (HMd.out.fr.below HD.out)
            have HLR : Hid (∀ u v, a ≤ u → u < mm → mm ≤ v → v < min (a + z) N → f u < f v) := fun u v u1 u2 v1 v2 => by
              have := HMM.out
              rw [HSM.out u u1, HSM.out v (by omega)]
              exact HT.out.2.2.2 HM.out u v u1 (by omega) (by omega) v2
            have HL : Hid (mm ≤ N → Srt K f a mm) := fun q => (HT.out.1.sub (Nat.le_refl _) (by have := HMM.out; omega)).congr (fun u u1 u2 => HSM.out u u1)
            have HRr : Hid (Srt K f mm (min (a + z) N)) := by rw [HMM.out]; exact HT.out.2.1.congr (fun u u1 u2 => HSM.out u (by omega))
            by_cases hlt : b ≤ N
            · have i1 : (b : Int) ≤ (N : Int) := by omega
              have HE1 : Hid (min (a + z) N = b) := by have := HB.out; show min (a + z) N = b; omega
              rw [HE1.out] at HLR HRr
              have HI := hidd (symm_any (c := c) hN h1 h2 (b - a) a mm b rfl ham (by have := HB.out; have := HMM.out; have := HZ.out; omega) hlt HRf.out.row HKr.out HDf.out HLR.out (HL.out (by have := HB.out; have := HMM.out; have := HZ.out; omega)) HRr.out)
              obtain ⟨b2, HB2⟩ : ∃ b2, Hid (b2 = b + z) := ⟨_, rfl⟩
              have s1 : IntKind.i64.wrap ((b : Int) + (z : Int)) = (b2 : Int) := by rw [IntKind.wrap_i64]; have := HB2.out; omega
              go_wp2_with fail
              refine HI.out.mono ?_
              rintro e w2 ⟨rfl, f2, k1, k2, k3⟩
              have HR2 := hidd (HRf.out.trans k1)
              have HM2 : Hid (Mid K d g2 f2 z N (k + 1)) := HMd.out.step (by rw [← HA.out]; exact HT.out.2.2.1) (by rw [← HA.out, HE1.out]; exact k2) (by rw [← HA.out, HE1.out]; exact k3)
              have HA2 : Hid (b = (k + 1) * z) := by show b = (k + 1) * z; rw [Nat.succ_mul, ← HA.out]; exact HB.out
              clear k1 k2 k3 HI
              go_wp2
              go_roundw
              case rel => exact ⟨k + 1, b, b2, f2, rfl, rfl, hlt, HA2, HB2, HM2, HR2⟩
              case measure => simp [intOf]; have := HB2.out; omega
            · have i1 : ¬ ((b : Int) ≤ (N : Int)) := by omega
              have HE1 : Hid (min (a + z) N = N) := by have := HB.out; show min (a + z) N = N; omega
              rw [HE1.out] at HLR HRr
              have HLE : Hid (N ≤ (k + 1) * z) := by show N ≤ (k + 1) * z; rw [Nat.succ_mul, ← HA.out]; have := HB.out; omega
              have HPA : Hid (Part d g2 (k * z) (min (k * z + z) N)) := by rw [← HA.out]; exact HT.out.2.2.1
              by_cases hmN : mm < N
              · have n1 : (mm : Int) < (N : Int) := by omega
                have HI := hidd (symm_any (c := c) hN h1 h2 (N - a) a mm N rfl ham hmN (Nat.le_refl _) HRf.out.row HKr.out HDf.out HLR.out (HL.out (by omega)) HRr.out)
                go_wp2_with fail
                refine HI.out.mono ?_
                rintro e w2 ⟨rfl, f2, k1, k2, k3⟩
                have HR2 := hidd (HRf.out.trans k1)
                have HS2 : Hid (Stb K d f2 z N) := (HMd.out.step HPA.out (by rw [← HA.out, HE1.out]; exact k2) (by rw [← HA.out, HE1.out]; exact k3)).all HLE.out
                clear k1 k2 k3 HI
                go_wp2
                go_roundw
                case rel => exact ⟨z, f2, rfl, by omega, HS2, HR2⟩
                case measure => simp [intOf]; have := HZ.out; omega
              · have n1 : ¬ ((mm : Int) < (N : Int)) := by omega
                have HSN : Hid (Srt K f a N) := (HT.out.1.sub (Nat.le_refl _) (by have := HMM.out; omega)).congr (fun u u1 u2 => HSM.out u u1)
                have HS2 : Hid (Stb K d f z N) := (HMd.out.step HPA.out (Fr.refl _ _ _) (by rw [← HA.out, HE1.out]; exact HSN.out)).all HLE.out
                go_wp2
                go_roundw
                case rel => exact ⟨z, f, rfl, by omega, HS2, HRf⟩
                case measure => simp [intOf]; have := HZ.out; omega
        · have j1 : ¬ ((s : Int) < (N : Int)) := by omega
          have HEND : Hid (Srt K g2 0 N) := by
            have q := (HS.out.blk 0).2
            rw [Nat.zero_mul, Nat.zero_add] at q
            exact q.sub (Nat.le_refl _) (by omega)
          go_wp2
          go_end0
          exact ⟨rfl, g2, HR.out, HS.out.fr, HEND.out⟩
end Go.Proofs.Ytjjnfpeeipainaa.Cl
namespace Go.Proofs.Ytjjnfpeeipainaa.Cl
open Go.RowKit
/-! SortStableFunc; what byDepth makes. -/
set_option maxRecDepth 20000 in
theorem sortst_any {w : World} {g N c : Nat} {d : Nat → Nat} {bx M : Nat} {K : Nat → Int} {nb o nc : Nat} (h : w.rowIs g 3 N (fun i => .int .i64 ((d i : Nat) : Int))) (hN : N ≤ 1048576) (hk : NdK w bx M K nb o nc) (h1 : bx ≠ g) (h2 : nb ≠ g) (hd : ∀ i, i < N → d i < M) (hm : ∀ u v, u < v → v < N → d u < d v) :
    Calls Try.prog 60 #[.slice (some ⟨g, 0, none⟩) N c, .func (.func 61) #[] #[.pointer (some ⟨bx, 0, none⟩)]] w fun e w' => e = .returned (.tuple #[]) ∧ ∃ d', Rw w g N d' w' ∧ Fr d d' 0 N ∧ Srt K d' 0 N := by
  have HS := hidd (stable_any (c := c) h hN hk h1 h2 hd hm)
  clear h hk hd hm
  go_enter Try.func60, Try.ntmps60
  go_wp2_with fail
  refine HS.out.mono ?_
  rintro e w2 ⟨rfl, hx⟩
  have HX := hidd hx
  clear hx HS
  go_wp2
  go_end0
  exact ⟨rfl, HX.out⟩
/-- as many places as numbers: every number has its place -/
theorem onto_of : ∀ (n : Nat) (f : Nat → Nat), (∀ i, i < n → f i < n) → (∀ i j, i < n → j < n → f i = f j → i = j) → ∀ v, v < n → ∃ i, i < n ∧ f i = v := by
  intro n
  induction n with
  | zero => intro f _ _ v hv; omega
  | succ n ih =>
    intro f hf hi v hv
    have hx := hf n (by omega)
    have hne : ∀ i, i < n → f i ≠ f n := fun i h e => by have := hi i n (by omega) (by omega) e; omega
    have key := ih (fun i => if f i = n then f n else f i) (fun i h => by
      have := hf i (by omega)
      have := hne i h
      show (if f i = n then f n else f i) < n
      split <;> omega) (fun i j h1 h2 e => by
      have a1 := hne i h1
      have a2 := hne j h2
      have a3 := hi i j (by omega) (by omega)
      have e : (if f i = n then f n else f i) = (if f j = n then f n else f j) := e
      split at e <;> split at e
      · exact a3 (by omega)
      · exact absurd e.symm a2
      · exact absurd e a1
      · exact a3 e)
    by_cases q : v = f n
    · exact ⟨n, by omega, q.symm⟩
    by_cases q2 : v = n
    · obtain ⟨i, i1, i2⟩ := key (f n) (by omega)
      have i2 : (if f i = n then f n else f i) = f n := i2
      split at i2
      · exact ⟨i, by omega, by omega⟩
      · exact absurd i2 (hne i i1)
    · obtain ⟨i, i1, i2⟩ := key v (by omega)
      have i2 : (if f i = n then f n else f i) = v := i2
      split at i2
      · exact absurd i2.symm q
      · exact ⟨i, by omega, i2⟩
theorem ltK.ne {K : Nat → Int} {x y : Nat} (h : ltK K x y) : x ≠ y := fun e => by
  subst e
  unfold ltK at h
  omega
theorem Srt.inj {K : Nat → Int} {d : Nat → Nat} {n : Nat} (h : Srt K d 0 n) {i j : Nat} (hi : i < n) (hj : j < n) (e : d i = d j) : i = j := by
  by_cases q : i < j
  · exact absurd e (h i j (Nat.zero_le _) q hj).ne
  · by_cases q2 : j < i
    · exact absurd e.symm (h j i (Nat.zero_le _) q2 hi).ne
    · omega
/-- where a number went, told by its first k places -/
def mv (d : Nat → Nat) : Nat → Nat → Nat
  | 0, _ => 0
  | k + 1, v => if v = d k then k else mv d k v
theorem mv_at {d : Nat → Nat} {n : Nat} (hi : ∀ i j, i < n → j < n → d i = d j → i = j) : ∀ k, k ≤ n → ∀ j, j < k → mv d k (d j) = j := by
  intro k
  induction k with
  | zero => intro _ j hj; omega
  | succ k ih =>
    intro hk j hj
    unfold mv
    split
    · next e => exact (hi j k (by omega) (by omega) e).symm
    · next e =>
      refine ih (by omega) j ?_
      by_cases q : j = k
      · subst q; exact absurd rfl e
      · omega
theorem mv_lt (d : Nat → Nat) : ∀ k v, 0 < k → mv d k v < k := by
  intro k
  induction k with
  | zero => intro v h; omega
  | succ k ih =>
    intro v _
    unfold mv
    split
    · omega
    · by_cases q : k = 0
      · subst q; unfold mv; omega
      · have := ih v (by omega); omega
/-- the nodes in their new order, the first k of them -/
def ouP (P : Nat → Int) (d e : Nat → Nat) : Nat → Int := fun i => if i = 0 then P (d 0) else ((e (P (d i)).toNat : Nat) : Int)
theorem made3 (w : World) (n : Nat) (t : TypeId) : (w.alloc (.cells (madeCells #[.int .i64 0, .int .i64 0, .int .i64 0] (n * 3)) t)).rowIs w.heap.size t (n * 3) (fun _ => .int .i64 0) :=
  ⟨_, Go.Deep.blk_alloc_new _ _, size_madeCells _ _, fun i hi => by
    have : i % 3 = 0 ∨ i % 3 = 1 ∨ i % 3 = 2 := by omega
    rcases this with e | e | e <;> simp [madeCells, hi, e]⟩
theorem run_make_nodes (n : Nat) (hn : n ≤ 1048576) (w : World) : (Instr.makeSlice 57 (.int .i64 (n : Int)) (.int .i64 (n : Int))).run Try.prog w = .ok (.slice (some ⟨w.heap.size, 0, none⟩) n n) (w.alloc (.cells (madeCells #[.int .i64 0, .int .i64 0, .int .i64 0] (n * 3)) 61)) := by
  obtain ⟨i, hi, z0, z1, z2⟩ := info_parts infoN
  have hr := run_make (P := Try.prog) w 57 61 i _ Try.underlying57 hi z0 .i64 .i64 n n (by omega) (Int.le_refl _) (by rw [z2]; omega) (by omega)
  simp only [Int.toNat_natCast, z1] at hr
  exact hr
end Go.Proofs.Ytjjnfpeeipainaa.Cl
namespace Go.Proofs.Ytjjnfpeeipainaa.Cl
open Go.RowKit
/-! byDepth. -/
theorem infoIs : (Try.prog.info? 3).map (fun i => (i.zero, i.size, i.bytes)) = some (some (.int .i64 0), 1, 8) := by kernel_rfl
theorem NdK.fresh {w w' : World} {bx M : Nat} {K : Nat → Int} {nb o c : Nat} (h : NdK w bx M K nb o c) (f : Below w.heap.size w w') : NdK w' bx M K nb o c := ⟨fresh_cell f h.box, fun i hi => fresh_cell f (h.at_ i hi)⟩
theorem zero_first {D : Nat → Int} {d : Nat → Nat} {n : Nat} (hn : 1 ≤ n) (hf : Fr (fun i => i) d 0 n) (hs : Srt D d 0 n) (hd : ∀ i, 0 < i → i < n → D 0 < D i) : d 0 = 0 := by
  have hb : ∀ i, i < n → d i < n := hf.below (fun i hi => hi)
  obtain ⟨i, i1, i2⟩ := onto_of n d hb (fun i j h1 h2 e => hs.inj h1 h2 e) 0 (by omega)
  by_cases q : i = 0
  · rw [← q, i2, q]
  · have k := hs 0 i (Nat.le_refl _) (by omega) i1
    rw [i2] at k
    by_cases q2 : d 0 = 0
    · exact q2
    · have := hd (d 0) (by omega) (hb 0 (by omega))
      unfold ltK at k
      omega
/-- the first k nodes of the new list, zeros behind -/
def ouF (P T D : Nat → Int) (k : Nat) : Nat → Value := fun j => if j < k * 3 then nds P T D j else .int .i64 0
theorem ouF_next (P T D : Nat → Int) (k j : Nat) : (if j = k * 3 + 2 then Value.int .i64 (D k) else if j = k * 3 + 1 then .int .i64 (T k) else if j = k * 3 then .int .i64 (P k) else ouF P T D k j) = ouF P T D (k + 1) j := by
  unfold ouF
  by_cases h1 : j = k * 3 + 2
  · subst h1; rw [if_pos rfl, if_pos (by omega), nds_2]
  · rw [if_neg h1]
    by_cases h2 : j = k * 3 + 1
    · subst h2; rw [if_pos rfl, if_pos (by omega), nds_1]
    · rw [if_neg h2]
      by_cases h3 : j = k * 3
      · subst h3; rw [if_pos rfl, if_pos (by omega), nds_0]
      · rw [if_neg h3]
        by_cases h4 : j < k * 3
        · rw [if_pos h4, if_pos (by omega)]
        · rw [if_neg h4, if_neg (by omega)]
theorem ouF_next2 (P T D : Nat → Int) (y : Value) (k j : Nat) : (if j = k * 3 then Value.int .i64 (P k) else if j = k * 3 + 2 then Value.int .i64 (D k) else if j = k * 3 + 1 then .int .i64 (T k) else if j = k * 3 then y else ouF P T D k j) = ouF P T D (k + 1) j := by
  rw [← ouF_next]
  by_cases h : j = k * 3
  · rw [if_pos h, if_neg (by omega), if_neg (by omega), if_pos h]
  · rw [if_neg h, if_neg h, if_neg h]
theorem mv_succ (d : Nat → Nat) (k v : Nat) : mv d (k + 1) v = if v = d k then k else mv d k v := rfl
set_option maxRecDepth 20000 in
set_option maxHeartbeats 4000000 in
theorem byDepth_any {w : World} {nb o n cap : Nat} {P T D : Nat → Int} (h : RdA w (some ⟨nb, o, none⟩) 3 n cap (nds P T D)) (hn : 1 ≤ n) (hN : n ≤ 1048576) (hb : nb < w.heap.size) (hp : ∀ i, 0 < i → i < n → 0 ≤ P i ∧ P i < n) (hd : ∀ i, 0 < i → i < n → D 0 < D i) :
    Calls Try.prog 37 #[.slice (some ⟨nb, o, none⟩) n cap] w fun e w' => ∃ d : Nat → Nat, Fr (fun i => i) d 0 n ∧ Srt D d 0 n ∧ d 0 = 0 ∧ ∃ g, w.heap.size ≤ g ∧ e = .returned (.slice (some ⟨g, 0, none⟩) n n) ∧ w'.rowIs g 61 (n * 3) (nds (ouP P d (mv d n)) (fun i => T (d i)) (fun i => D (d i))) ∧ Below w.heap.size w w' := by
  obtain ⟨iI, hiI, zI0, zI1, zI2⟩ := info_parts infoIs
  have hmk : ∀ w, (Instr.makeSlice 37 (.int .i64 (n : Int)) (.int .i64 (n : Int))).run Try.prog w = .ok (.slice (some ⟨w.heap.size, 0, none⟩) n n) (w.alloc (.cells (madeCells #[.int .i64 0] n) 3)) := run_make_row 37 3 iI (.int .i64 0) Try.underlying37 hiI zI0 zI1 rfl .i64 .i64 n (by rw [zI2]; omega) (by omega)
  clear hiI zI0 zI1 zI2
  have hmn := run_make_nodes n hN
  have HP := hidd hp
  have HDp := hidd hd
  obtain ⟨bx, HBX⟩ : ∃ b, Hid (b = w.heap.size) := ⟨_, rfl⟩
  obtain ⟨w0, HW0⟩ : ∃ x, Hid (x = w.alloc (.cells #[.slice (some ⟨nb, o, none⟩) n cap] 57)) := ⟨_, rfl⟩
  have HF0 : Hid (Below w.heap.size w w0) := by rw [HW0.out]; exact fresh_alloc _ _
  have HZ0 : Hid (w0.heap.size = bx + 1) := by show _ = _; rw [HW0.out, HBX.out]; simp
  have c0 : w0.cell? ⟨bx, 0, none⟩ = some (.slice (some ⟨nb, o, none⟩) n cap) := by
    rw [HW0.out, HBX.out]
    unfold World.cell?
    rw [World.alloc_heap_new]
    rfl
  have HND : Hid (∀ i, i < n → w0.cell? ⟨nb, o + i * 3, none⟩ = some (.int .i64 (P i)) ∧ w0.cell? ⟨nb, o + i * 3 + 1, none⟩ = some (.int .i64 (T i)) ∧ w0.cell? ⟨nb, o + i * 3 + 2, none⟩ = some (.int .i64 (D i))) := by
    obtain ⟨b', o', e, hc⟩ := (h.fresh HF0.out).node (by omega)
    cases e
    exact hc
  have HK0 : Hid (NdK w0 bx n D nb o cap) := ⟨c0, fun i hi => (HND.out i hi).2.2⟩
  have HR0 := hidd (World.rowIs_made w0 (.int .i64 0) n 3)
  have HB0 := hidd (fresh_alloc w0 (.cells (madeCells #[.int .i64 0] n) 3))
  have HZA : Hid ((w0.alloc (.cells (madeCells #[.int .i64 0] n) 3)).heap.size = w0.heap.size + 1) := by show _ = _; simp
  have HNB : Hid (nb < bx) := by show nb < bx; rw [HBX.out]; exact hb
  clear hp hd h hb
  go_enter Try.func37, Try.ntmps37
  go_upto_region 1 with fail
  rw [← HW0.out, ← HBX.out]
  obtain ⟨g, HG⟩ : ∃ g, Hid (g = w0.heap.size) := ⟨_, rfl⟩
  go_wp2
  rw [← HG.out]
  rw [← HG.out] at HR0 HB0 HZA
  clear c0
  go_loopw [16] (fun i wr => ∃ k : Nat, k ≤ n ∧ i = .int .i64 (k : Int) ∧ Hid (wr.rowIs g 3 n (fun j => .int .i64 (((if j < k then j else 0 : Nat)) : Int))) ∧ Hid (Below g w0 wr) ∧ Hid (wr.heap.size = g + 1)) (fun i _ => n - (intOf i).toNat)
  case atStart => exact ⟨0, Nat.zero_le _, by first | rfl | simp, HR0.out.congr (fun j _ => by rw [if_neg (by omega)]; rfl), HB0, HZA⟩
  case round =>
    clear HR0 HB0 HZA
    obtain ⟨k, hk, rfl, HR, HB, HZ⟩ := hrel
    by_cases hlt : k < n
    · have c1 := HR.out.cell (i := k) hlt
      have fr := HR.out.frozen
      have i0 : (0 : Int) ≤ (k : Int) := by omega
      have i1 : (k : Int) < (n : Int) := by omega
      go_wp2
      go_roundw
      case rel =>
        refine ⟨k + 1, by omega, by go_num, (HR.out.set k (.int .i64 (k : Int))).congr (fun j _ => ?_), HB.out.setCell (Nat.le_refl _) _, ?_⟩
        · by_cases e : j = k
          · subst e; rw [if_pos rfl, if_pos (by omega)]
          · rw [if_neg e]
            by_cases e2 : j < k
            · rw [if_pos e2, if_pos (by omega)]
            · rw [if_neg e2, if_neg (by omega)]
        · show _ = _; have := HZ.out; simp; exact this
      case measure => simp [intOf]; omega
    · obtain rfl : k = n := by omega
      have HR1 : Hid (wr.rowIs g 3 k (fun j => .int .i64 (((fun i => i) j : Nat) : Int))) := HR.out.congr (fun j hj => by rw [if_pos hj])
      have HB1 := HB
      rw [HG.out] at HB1
      have HSO := hidd (sortst_any (c := k) (d := fun i => i) HR1.out hN (HK0.out.fresh HB1.out) (by have := HG.out; have := HZ0.out; omega) (by have := HG.out; have := HZ0.out; have := HNB.out; omega) (fun i hi => hi) (fun u v q _ => q))
      go_wp2_with fail
      refine HSO.out.mono ?_
      rintro e w2 ⟨rfl, d, k1, k2, k3⟩
      have HR2 : Hid (w2.rowIs g 3 k (fun i => .int .i64 ((d i : Nat) : Int))) := k1.row
      have HF2 : Hid (Below w0.heap.size w0 w2) := HB1.out.trans (k1.low (Nat.le_of_eq HG.out.symm))
      have HFr := hidd k2
      have HSr := hidd k3
      have c2 : w2.cell? ⟨bx, 0, none⟩ = some (.slice (some ⟨nb, o, none⟩) k cap) := fresh_cell HF2.out HK0.out.box
      have HDL : Hid (∀ i, i < k → d i < k) := k2.below (fun i hi => hi)
      have HIJ : Hid (∀ i j, i < k → j < k → d i = d j → i = j) := fun i j q1 q2 q3 => k3.inj q1 q2 q3
      have HD0 : Hid (d 0 = 0) := zero_first hn k2 k3 HDp.out
      clear k1 k2 k3 HSO HR HB HR1 HB1 HZ hlt hk HDp
      obtain ⟨g2, HG2⟩ : ∃ x, Hid (x = w2.heap.size) := ⟨_, rfl⟩
      have HR3 := hidd (World.rowIs_made w2 (.int .i64 0) k 3)
      have HB3 := hidd (fresh_alloc w2 (.cells (madeCells #[.int .i64 0] k) 3))
      have HLG : Hid (g < g2) := by show g < g2; rw [HG2.out]; exact HR2.out.lt
      rw [← HG2.out] at HR3 HB3
      go_wp2
      rw [← HG2.out]
      clear c2 hmk
      rename World => wA
      go_loopw [32] (fun i wr => ∃ j : Nat, j ≤ k ∧ i = .int .i64 (j : Int) ∧ Hid (wr.rowIs g2 3 k (fun v => .int .i64 ((mv d j v : Nat) : Int))) ∧ Hid (Below g2 wA wr)) (fun i _ => k - (intOf i).toNat)
      case atStart => exact ⟨0, Nat.zero_le _, by first | rfl | simp, HR3.out.congr (fun _ _ => rfl), HB3⟩
      case round =>
        clear HR3 HB3
        obtain ⟨j, hj, rfl, HR, HB⟩ := hrel
        have HBo := HB
        rw [HG2.out] at HBo
        by_cases hlt : j < k
        · obtain ⟨x, HX⟩ : ∃ x, Hid (x = d j) := ⟨_, rfl⟩
          have hx : x < k := by rw [HX.out]; exact HDL.out j hlt
          have c1 : wr.cell? ⟨g, j, none⟩ = some (.int .i64 (x : Int)) := by rw [HX.out]; exact fresh_cell HBo.out (HR2.out.cell (i := j) hlt)
          have c3 := HR.out.cell (i := x) hx
          have fr := HR.out.frozen
          have i0 : (0 : Int) ≤ (j : Int) := by omega
          have i1 : (j : Int) < (k : Int) := by omega
          have i2 : (0 : Int) ≤ (x : Int) := by omega
          have i3 : (x : Int) < (k : Int) := by omega
          go_wp2
          go_roundw
          case rel =>
            refine ⟨j + 1, by omega, by go_num, (HR.out.set x (.int .i64 (j : Int))).congr (fun v _ => ?_), HB.out.setCell (Nat.le_refl _) _⟩
            rw [mv_succ, ← HX.out]
            split <;> rfl
          case measure => simp [intOf]; omega
        · obtain rfl : j = k := by omega
          have HF4 : Hid (Below w0.heap.size w0 wr) := fresh_trans HF2.out HBo.out
          have c4 : wr.cell? ⟨bx, 0, none⟩ = some (.slice (some ⟨nb, o, none⟩) j cap) := fresh_cell HF4.out HK0.out.box
          have HO4 : Hid (∀ i, i < j → wr.cell? ⟨g, i, none⟩ = some (.int .i64 ((d i : Nat) : Int))) := fun i hi => fresh_cell HBo.out (HR2.out.cell (i := i) hi)
          have HM4 := HR
          obtain ⟨g3, HG3⟩ : ∃ x, Hid (x = wr.heap.size) := ⟨_, rfl⟩
          have HLG3 : Hid (g2 < g3) := by show g2 < g3; rw [HG3.out]; exact HR.out.lt
          have HR5 := hidd (made3 wr j 61)
          have HB5 := hidd (fresh_alloc wr (.cells (madeCells #[.int .i64 0, .int .i64 0, .int .i64 0] (j * 3)) 61))
          rw [← HG3.out] at HR5 HB5
          clear HR HB HBo hlt hj HF2 HR2
          go_wp2
          rw [← HG3.out]
          clear c4 hmn
          rename World => wB
          go_loopw [47] (fun i wr => ∃ l : Nat, l ≤ j ∧ i = .int .i64 (l : Int) ∧ Hid (wr.rowIs g3 61 (j * 3) (ouF (ouP P d (mv d j)) (fun i => T (d i)) (fun i => D (d i)) l)) ∧ Hid (Below g3 wB wr)) (fun i _ => j - (intOf i).toNat)
          case atStart => exact ⟨0, Nat.zero_le _, by first | rfl | simp, HR5.out.congr (fun i _ => by unfold ouF; rw [if_neg (by omega)]), HB5⟩
          case round =>
            clear HR5 HB5
            obtain ⟨l, hl, rfl, HR, HB⟩ := hrel
            have HBo := HB
            rw [HG3.out] at HBo
            have HF6 : Hid (Below w0.heap.size w0 wr) := fresh_trans HF4.out HBo.out
            by_cases hlt : l < j
            · obtain ⟨x, HX⟩ : ∃ x, Hid (x = d l) := ⟨_, rfl⟩
              have hx : x < j := by rw [HX.out]; exact HDL.out l hlt
              have c1 : wr.cell? ⟨g, l, none⟩ = some (.int .i64 (x : Int)) := by rw [HX.out]; exact fresh_cell HBo.out (HO4.out l hlt)
              have c2 : wr.cell? ⟨bx, 0, none⟩ = some (.slice (some ⟨nb, o, none⟩) j cap) := fresh_cell HF6.out HK0.out.box
              obtain ⟨n1, n2, n3⟩ := HND.out x hx
              have n1 := fresh_cell HF6.out n1
              have n2 := fresh_cell HF6.out n2
              have n3 := fresh_cell HF6.out n3
              have r0 := HR.out.cell (i := l * 3) (by omega)
              have r1 := HR.out.cell (i := l * 3 + 1) (by omega)
              have r2 := HR.out.cell (i := l * 3 + 2) (by omega)
              have fr := HR.out.frozen
              have i0 : (0 : Int) ≤ (l : Int) := by omega
              have i1 : (l : Int) < (j : Int) := by omega
              have i2 : (0 : Int) ≤ (x : Int) := by omega
              have i3 : (x : Int) < (j : Int) := by omega
              by_cases hl0 : l = 0
              · have d1 : decide ((0 : Int) < (l : Int)) = false := decide_eq_false (by omega)
                have d2 : decide (0 < l) = false := decide_eq_false (by omega)
                have d3 : ¬ ((0 : Int) < (l : Int)) := by omega
                have HPL : Hid (ouP P d (mv d j) l = P x) := by show _ = _; unfold ouP; rw [if_pos hl0, HX.out, hl0]
                have HTL : Hid (T x = T (d l) ∧ D x = D (d l)) := by rw [HX.out]; exact ⟨rfl, rfl⟩
                clear hl0
                generalize P x = y1 at n1 HPL
                generalize T x = y2 at n2 HTL
                generalize D x = y3 at n3 HTL
                go_wp2
                go_roundw
                case rel =>
                  refine ⟨l + 1, by omega, by go_num, (((HR.out.set (l * 3) (.int .i64 y1)).set (l * 3 + 1) (.int .i64 y2)).set (l * 3 + 2) (.int .i64 y3)).congr (fun v _ => ?_), ((HB.out.setCell (Nat.le_refl _) _).setCell (Nat.le_refl _) _).setCell (Nat.le_refl _) _⟩
                  rw [← ouF_next, HPL.out, ← HTL.out.1, ← HTL.out.2]
                case measure => simp [intOf]; omega
              · have d1 : decide ((0 : Int) < (l : Int)) = true := decide_eq_true (by omega)
                have d2 : decide (0 < l) = true := decide_eq_true (by omega)
                have d3 : (0 : Int) < (l : Int) := by omega
                have hx0 : 0 < x := by
                  by_cases q : x = 0
                  · exact absurd (HIJ.out l 0 hlt (by omega) (by rw [HD0.out, ← HX.out, q])) hl0
                  · omega
                have HXP := hidd (HP.out x hx0 hx)
                obtain ⟨p, HPP⟩ : ∃ p : Nat, Hid (p = (P x).toNat) := ⟨_, rfl⟩
                have HPI : Hid (P x = (p : Int)) := by have := HXP.out; have := HPP.out; show P x = (p : Int); omega
                have hpj : p < j := by have := HXP.out; have := HPI.out; omega
                have HPL : Hid (ouP P d (mv d j) l = ((mv d j p : Nat) : Int)) := by show _ = _; unfold ouP; rw [if_neg hl0, HPP.out, HX.out]
                have HTL : Hid (T x = T (d l) ∧ D x = D (d l)) := by rw [HX.out]; exact ⟨rfl, rfl⟩
                have HN1 := hidd (HND.out x hx).1
                rw [HPI.out] at n1 HN1
                clear hl0 HPI HPP HXP hx0
                generalize T x = y2 at n2 HTL
                generalize D x = y3 at n3 HTL
                have HQ := hidd (((HR.out.set (l * 3) (.int .i64 (p : Int))).set (l * 3 + 1) (.int .i64 y2)).set (l * 3 + 2) (.int .i64 y3))
                have HQB : Hid (Below g3 wB (((wr.setCell ⟨g3, l * 3, none⟩ (.int .i64 (p : Int))).setCell ⟨g3, l * 3 + 1, none⟩ (.int .i64 y2)).setCell ⟨g3, l * 3 + 2, none⟩ (.int .i64 y3))) := ((HB.out.setCell (Nat.le_refl _) _).setCell (Nat.le_refl _) _).setCell (Nat.le_refl _) _
                have HF7 : Hid (Below w0.heap.size w0 (((wr.setCell ⟨g3, l * 3, none⟩ (.int .i64 (p : Int))).setCell ⟨g3, l * 3 + 1, none⟩ (.int .i64 y2)).setCell ⟨g3, l * 3 + 2, none⟩ (.int .i64 y3))) := HF4.out.trans (HQB.out.mono (by rw [HG3.out]; exact HF4.out.size))
                have m1 : (((wr.setCell ⟨g3, l * 3, none⟩ (.int .i64 (p : Int))).setCell ⟨g3, l * 3 + 1, none⟩ (.int .i64 y2)).setCell ⟨g3, l * 3 + 2, none⟩ (.int .i64 y3)).cell? ⟨bx, 0, none⟩ = some (.slice (some ⟨nb, o, none⟩) j cap) := fresh_cell HF7.out HK0.out.box
                have m2 : (((wr.setCell ⟨g3, l * 3, none⟩ (.int .i64 (p : Int))).setCell ⟨g3, l * 3 + 1, none⟩ (.int .i64 y2)).setCell ⟨g3, l * 3 + 2, none⟩ (.int .i64 y3)).cell? ⟨nb, o + x * 3, none⟩ = some (.int .i64 (p : Int)) := fresh_cell HF7.out HN1.out
                have m3 : (((wr.setCell ⟨g3, l * 3, none⟩ (.int .i64 (p : Int))).setCell ⟨g3, l * 3 + 1, none⟩ (.int .i64 y2)).setCell ⟨g3, l * 3 + 2, none⟩ (.int .i64 y3)).cell? ⟨g2, p, none⟩ = some (.int .i64 ((mv d j p : Nat) : Int)) := by
                  have q := HM4.out.cell (i := p) hpj
                  have e := HQB.out.block g2 HLG3.out
                  unfold World.cell? at q ⊢
                  simp only [e]
                  exact q
                have m4 := HQ.out.cell (i := l * 3) (by omega)
                have fr2 := HQ.out.frozen
                have i4 : (0 : Int) ≤ (p : Int) := by omega
                have i5 : (p : Int) < (j : Int) := by omega
                generalize mv d j p = z at m3 HPL
                clear HF7
                go_wp2
                go_roundw
                case rel =>
                  refine ⟨l + 1, by omega, by go_num, (HQ.out.set (l * 3) (.int .i64 ((z : Nat) : Int))).congr (fun v _ => ?_), HQB.out.setCell (Nat.le_refl _) _⟩
                  rw [← ouF_next2 _ _ _ (.int .i64 (p : Int)), HPL.out, ← HTL.out.1, ← HTL.out.2]
                case measure => simp [intOf]; omega
            · obtain rfl : l = j := by omega
              have HEND : Hid (wr.rowIs g3 61 (l * 3) (nds (ouP P d (mv d l)) (fun i => T (d i)) (fun i => D (d i)))) := HR.out.congr (fun v hv => if_pos hv)
              have HLOW : Hid (Below w.heap.size w wr) := fresh_trans HF0.out HF6.out
              have HGE : Hid (w.heap.size ≤ g3) := by show _ ≤ g3; rw [HG3.out]; exact Nat.le_trans HF0.out.size HF4.out.size
              go_wp2
              go_ret
              exact ⟨d, HFr.out, HSr.out, HD0.out, g3, HGE.out, rfl, HEND.out, HLOW.out⟩
end Go.Proofs.Ytjjnfpeeipainaa.Cl
namespace Go.Proofs.Ytjjnfpeeipainaa.Cl
open Go.RowKit
open Go.Maps (Keyed)
open Go.ChangeMaps (setBlock heap_setBlock_same heap_setBlock_other modify_eq_set)
open Go.MapKept (Stamped)
/-! Raw nodes as keys, and the map that leads from them to places. -/
def fits (x : Int) : Prop := -9223372036854775808 ≤ x ∧ x ≤ 9223372036854775807
theorem tsize : Try.prog.types.size = 193 := by kernel_rfl
theorem wf_fits {x : Int} (h : fits x) : (Lit.int .i64 x).wf = true := by
  unfold fits at h
  simp only [Lit.wf, Bool.and_eq_true, decide_eq_true_eq]
  have h1 : IntKind.min .i64 = -9223372036854775808 := by decide
  have h2 : IntKind.max .i64 = 9223372036854775807 := by decide
  omega
theorem lits_int (d : Nat) {x : Int} (h : fits x) : Try.prog.keyLits (d + 1) 3 [.int .i64 x] = some [.int .i64 x] := by
  unfold Program.keyLits
  rw [Try.underlying3]
  simp [wf_fits h]
def keyV (a b : Int) : Value := .agg #[.int .i64 a, .int .i64 b]
theorem keyV_inj {a b a' b' : Int} (h : keyV a b = keyV a' b') : a = a' ∧ b = b' := by
  unfold keyV at h
  simpa using h
theorem lits_key (d : Nat) {a b : Int} (ha : fits a) (hb : fits b) : ∃ l, Try.prog.keyLits (d + 1 + 1) 48 [.int .i64 a, .int .i64 b] = some l := by
  have c2 : Try.prog.cellsOf 48 = 2 := by kernel_rfl
  have c3 : Try.prog.cellsOf 3 = 1 := by kernel_rfl
  unfold Program.keyLits
  rw [Try.underlying48]
  simp [c2, c3, lits_int d ha, lits_int d hb]
theorem key_ok {a b : Int} (ha : fits a) (hb : fits b) : ∃ l, keyOf Try.prog 48 (keyV a b) = some l := by
  have c2 : Try.prog.cellsOf 48 = 2 := by kernel_rfl
  have k1 : Try.prog.keyType 48 = true := by kernel_rfl
  obtain ⟨l, hl⟩ := lits_key 192 ha hb
  refine ⟨.string (keyBytes l), ?_⟩
  unfold keyOf
  rw [Try.underlying48]
  have hf : (keyV a b).formed Try.prog 48 = true := by
    unfold keyV Value.formed
    rw [Try.underlying48]
    simp [c2]
  have hc : (keyV a b).cells.toList = [.int .i64 a, .int .i64 b] := by simp [keyV, Value.cells]
  simp only [k1, hf, tsize, hc, hl]
  rfl
theorem klaw : WideMaps.KeyLaw Try.prog 48 := deep_law_gate (P := Try.prog) (by kernel_rfl) (by rw [tsize]; decide) (by rw [tsize]; decide) (by kernel_rfl) (by kernel_rfl)
/-- the map in memory: to the key a, b it answers G a b -/
structure KMp (w : World) (M : Nat) (G : Int → Int → Option Int) (es : Array MapEntry) (clock : Nat) : Prop where
  blk : w.heap[M]? = some (.map es clock)
  stamped : Stamped es clock
  keys : ∀ e ∈ es.toList, ∃ l, keyOf Try.prog 48 e.key = some l
  val : ∀ e ∈ es.toList, ∀ a b, e.key = keyV a b → ∃ v, G a b = some v ∧ e.val = .int .i64 v
  non : ∀ a b, (∀ e ∈ es.toList, e.key ≠ keyV a b) → G a b = none
def KMap (w : World) (M : Nat) (G : Int → Int → Option Int) : Prop := ∃ es clock, KMp w M G es clock
theorem KMap.made (w : World) : KMap (w.alloc (.map #[] 0)) w.heap.size (fun _ _ => none) :=
  ⟨#[], 0, Go.Deep.blk_alloc_new _ _, ⟨by simp, by simp, by simp⟩, by simp, by simp, fun _ _ _ => rfl⟩
theorem KMap.lt {w : World} {M : Nat} {G : Int → Int → Option Int} (h : KMap w M G) : M < w.heap.size := by
  obtain ⟨es, clock, g⟩ := h
  exact (Array.getElem?_eq_some_iff.1 g.blk).1
theorem KMap.of_block {w w' : World} {M : Nat} {G : Int → Int → Option Int} (h : KMap w M G) (e : w'.heap[M]? = w.heap[M]?) : KMap w' M G := by
  obtain ⟨es, clock, g⟩ := h
  exact ⟨es, clock, e.trans g.blk, g.stamped, g.keys, g.val, g.non⟩
theorem KMap.congr {w : World} {M : Nat} {G G' : Int → Int → Option Int} (h : KMap w M G) (e : ∀ a b, G a b = G' a b) : KMap w M G' := by
  have : G = G' := funext fun a => funext fun b => e a b
  rw [← this]; exact h
theorem KMap.look_some {w : World} {M : Nat} {G : Int → Int → Option Int} (h : KMap w M G) {a b v : Int} (ha : fits a) (hb : fits b) (hv : G a b = some v) :
    (Instr.lookup 121 (.map (some M)) (.agg #[.int .i64 a, .int .i64 b]) true).run Try.prog w = .ok (.tuple #[.int .i64 v, .bool true]) w := by
  obtain ⟨es, clock, q⟩ := h
  obtain ⟨l, hk⟩ := key_ok ha hb
  show (Instr.lookup 121 (.map (some M)) (keyV a b) true).run Try.prog w = _
  rcases klaw.find w hk es.toList q.keys with ⟨h1, h2⟩ | ⟨j, e0, h1, h2, h3⟩
  · rw [q.non a b h2] at hv; cases hv
  · have he := List.mem_of_getElem? h2
    obtain ⟨v', e1, e2⟩ := q.val e0 he a b h3
    rw [hv] at e1
    cases e1
    simp [Instr.lookup, run_underlying Try.underlying121, MapKept.run_getObj_map q.blk, klaw.check w _ hk, h1, e2, Result.andThen]
theorem KMap.look_none {w : World} {M : Nat} {G : Int → Int → Option Int} (h : KMap w M G) {a b : Int} (ha : fits a) (hb : fits b) (hv : G a b = none) :
    (Instr.lookup 121 (.map (some M)) (.agg #[.int .i64 a, .int .i64 b]) true).run Try.prog w = .ok (.tuple #[.int .i64 0, .bool false]) w := by
  obtain ⟨es, clock, q⟩ := h
  obtain ⟨l, hk⟩ := key_ok ha hb
  show (Instr.lookup 121 (.map (some M)) (keyV a b) true).run Try.prog w = _
  rcases klaw.find w hk es.toList q.keys with ⟨h1, h2⟩ | ⟨j, e0, h1, h2, h3⟩
  · simp [Instr.lookup, run_underlying Try.underlying121, MapKept.run_getObj_map q.blk, klaw.check w _ hk, h1, Result.andThen]
  · have he := List.mem_of_getElem? h2
    obtain ⟨v', e1, e2⟩ := q.val e0 he a b h3
    rw [hv] at e1
    cases e1
/-- what 'm[k] = v' makes of the entries -/
theorem upd_core {w : World} {M : Nat} {es : Array MapEntry} {clock : Nat} (hb : w.heap[M]? = some (.map es clock)) (hs : Stamped es clock) (hkeys : ∀ e ∈ es.toList, ∃ l, keyOf Try.prog 48 e.key = some l) {k val : Value} {l : Lit} (hk : keyOf Try.prog 48 k = some l) :
    ∃ es' clock', (Instr.mapUpdate 121 (.map (some M)) k val).run Try.prog w = .ok () (setBlock w M (.map es' clock')) ∧ Stamped es' clock' ∧ (∀ e ∈ es'.toList, (e ∈ es.toList ∧ e.key ≠ k) ∨ (e.key = k ∧ e.val = val)) ∧ (∀ e ∈ es.toList, e.key ≠ k → e ∈ es'.toList) ∧ ∃ e ∈ es'.toList, e.key = k ∧ e.val = val := by
  obtain ⟨s1, s2, s3⟩ := hs
  rcases klaw.find w hk es.toList hkeys with ⟨h1, h2⟩ | ⟨j, e0, h1, h2, h3⟩
  · refine ⟨es.push ⟨k, val, clock⟩, clock + 1, by simp [Instr.mapUpdate, run_underlying Try.underlying121, MapKept.run_getObj_map hb, klaw.check w false hk, h1, MapKept.run_setObj_map _ hb, Result.andThen, setBlock], ⟨?_, ?_, ?_⟩, ?_, ?_, ?_⟩
    · intro x hx
      simp only [Array.toList_push, List.mem_append, List.mem_singleton] at hx
      rcases hx with hx | rfl
      · have := s1 x hx; omega
      · simp
    · simp only [Array.toList_push, List.map_append, List.map_cons, List.map_nil]
      refine List.nodup_append.2 ⟨s2, by simp, fun a ha c hc e1 => ?_⟩
      simp only [List.mem_singleton] at hc
      obtain ⟨x, hx, rfl⟩ := List.mem_map.1 ha
      have := s1 x hx
      omega
    · simp only [Array.toList_push, List.map_append, List.map_cons, List.map_nil]
      refine List.nodup_append.2 ⟨s3, by simp, fun a ha c hc e1 => ?_⟩
      simp only [List.mem_singleton] at hc
      obtain ⟨x, hx, rfl⟩ := List.mem_map.1 ha
      exact h2 x hx (e1.trans hc)
    · intro e he
      simp only [Array.toList_push, List.mem_append, List.mem_singleton] at he
      rcases he with he | rfl
      · exact .inl ⟨he, h2 e he⟩
      · exact .inr ⟨rfl, rfl⟩
    · intro e he _
      simp [he]
    · exact ⟨⟨k, val, clock⟩, by simp, rfl, rfl⟩
  · have hj : es[j]? = some e0 := by simpa using h2
    have hset : (es.modify j (fun e => { e with key := k, val := val })).toList = es.toList.set j { e0 with key := k, val := val } := by
      rw [Array.toList_modify, modify_eq_set _ _ _ _ h2]
    have hjl : j < es.toList.length := (List.getElem?_eq_some_iff.1 h2).1
    have hmem : ∀ e ∈ es.toList.set j { e0 with key := k, val := val }, (e ∈ es.toList ∧ e.key ≠ k) ∨ (e = { e0 with key := k, val := val }) := by
      intro e he
      obtain ⟨i, hi⟩ := List.mem_iff_getElem?.1 he
      rw [List.getElem?_set] at hi
      split at hi
      · exact .inr (Option.some.inj hi).symm
      · rename_i hne
        refine .inl ⟨List.mem_of_getElem? hi, fun ek => hne ?_⟩
        have a1 : (es.toList.map (·.key))[i]? = some k := by simp [hi, ek]
        have a2 : (es.toList.map (·.key))[j]? = some k := by simp [h2, h3]
        have hil : i < (es.toList.map (·.key)).length := (List.getElem?_eq_some_iff.1 a1).1
        have := (List.getElem?_inj hil s3).1 (a1.trans a2.symm)
        exact this.symm
    refine ⟨es.modify j (fun e => { e with key := k, val := val }), clock, by simp [Instr.mapUpdate, run_underlying Try.underlying121, MapKept.run_getObj_map hb, klaw.check w false hk, h1, hj, h3, klaw.stays w hk, MapKept.run_setObj_map _ hb, Result.andThen, setBlock], ⟨?_, ?_, ?_⟩, ?_, ?_, ?_⟩
    · intro x hx
      rw [hset] at hx
      rcases hmem x hx with ⟨h, _⟩ | rfl
      · exact s1 x h
      · exact s1 e0 (List.mem_of_getElem? h2)
    · rw [hset, List.map_set, show ({ e0 with key := k, val := val } : MapEntry).born = e0.born from rfl]
      have : (es.toList.map (·.born)).set j e0.born = es.toList.map (·.born) := WideElems.set_self _ _ _ (by simp [h2])
      rw [this]; exact s2
    · rw [hset, List.map_set]
      have : (es.toList.map (·.key)).set j k = es.toList.map (·.key) := WideElems.set_self _ _ _ (by simp [h2, h3])
      show ((es.toList.map (·.key)).set j k).Nodup
      rw [this]; exact s3
    · intro e he
      rw [hset] at he
      rcases hmem e he with h | rfl
      · exact .inl h
      · exact .inr ⟨rfl, rfl⟩
    · intro e he hne
      rw [hset]
      obtain ⟨i, hi⟩ := List.mem_iff_getElem?.1 he
      refine List.mem_iff_getElem?.2 ⟨i, ?_⟩
      rw [List.getElem?_set_ne]
      · exact hi
      · intro e1
        subst e1
        rw [h2] at hi
        cases hi
        exact hne h3
    · exact ⟨{ e0 with key := k, val := val }, by rw [hset]; exact List.mem_iff_getElem?.2 ⟨j, by rw [List.getElem?_set_self hjl]⟩, rfl, rfl⟩
def updK (G : Int → Int → Option Int) (a b v : Int) : Int → Int → Option Int := fun x y => if x = a ∧ y = b then some v else G x y
theorem KMap.upd {w : World} {M : Nat} {G : Int → Int → Option Int} (h : KMap w M G) {a b : Int} (ha : fits a) (hb : fits b) (v : Int) :
    ∃ w', (Instr.mapUpdate 121 (.map (some M)) (.agg #[.int .i64 a, .int .i64 b]) (.int .i64 v)).run Try.prog w = .ok () w' ∧ KMap w' M (updK G a b v) ∧ (∀ k, k ≠ M → w'.heap[k]? = w.heap[k]?) ∧ w'.heap.size = w.heap.size ∧ w'.os = w.os ∧ w'.tape = w.tape ∧ w'.output = w.output := by
  obtain ⟨es, clock, q⟩ := h
  obtain ⟨l, hk⟩ := key_ok ha hb
  obtain ⟨es', clock', r1, r2, r3, r4, r5⟩ := upd_core q.blk q.stamped q.keys (val := .int .i64 v) hk
  refine ⟨_, r1, ⟨es', clock', heap_setBlock_same q.blk _, r2, fun e he => ?_, fun e he x y hxy => ?_, fun x y hne => ?_⟩, fun k hk => heap_setBlock_other q.blk _ hk, by simp [setBlock], rfl, rfl, rfl⟩
  · rcases r3 e he with ⟨h, _⟩ | ⟨h, _⟩
    · exact q.keys e h
    · rw [h]; exact ⟨l, hk⟩
  · rcases r3 e he with ⟨h, hn⟩ | ⟨h, hv⟩
    · obtain ⟨v', e1, e2⟩ := q.val e h x y hxy
      refine ⟨v', ?_, e2⟩
      unfold updK
      rw [if_neg (fun c => hn (by rw [hxy, c.1, c.2]))]
      exact e1
    · obtain ⟨e1, e2⟩ := keyV_inj (hxy.symm.trans h)
      refine ⟨v, ?_, hv⟩
      unfold updK
      rw [if_pos ⟨e1, e2⟩]
  · have hn : ¬ (x = a ∧ y = b) := fun c => by
      obtain ⟨e0, he0, hk0, _⟩ := r5
      exact hne e0 he0 (by rw [c.1, c.2]; exact hk0)
    unfold updK
    rw [if_neg hn]
    refine q.non x y (fun e he ek => hne e (r4 e he (fun c => hn ?_)) ek)
    exact keyV_inj (ek.symm.trans c)
end Go.Proofs.Ytjjnfpeeipainaa.Cl
namespace Go.Proofs.Ytjjnfpeeipainaa.Cl
open Go.RowKit
/-! What gather makes: nodes, and for each raw node its place. -/
/-- which node has this parent and this token -/
def fndK (P T : Nat → Int) : Nat → Int → Int → Option Int
  | 0, _, _ => none
  | n + 1, a, b => if n = 0 then none else if a = P n ∧ b = T n then some (n : Int) else fndK P T n a b
theorem fndK_some {P T : Nat → Int} : ∀ {n : Nat} {a b v : Int}, fndK P T n a b = some v → 0 < v ∧ v < n ∧ P v.toNat = a ∧ T v.toNat = b
  | 0, _, _, _, h => by simp [fndK] at h
  | n + 1, a, b, v, h => by
    unfold fndK at h
    split at h
    · cases h
    · next h0 =>
      split at h
      · next h1 =>
        cases h
        exact ⟨by omega, by omega, h1.1.symm, h1.2.symm⟩
      · obtain ⟨h1, h2, h3, h4⟩ := fndK_some h
        exact ⟨h1, by omega, h3, h4⟩
theorem fndK_congr {P T P' T' : Nat → Int} : ∀ {n : Nat} {a b : Int}, (∀ i, i < n → P' i = P i ∧ T' i = T i) → fndK P' T' n a b = fndK P T n a b
  | 0, _, _, _ => rfl
  | n + 1, a, b, h => by
    unfold fndK
    rw [(h n (by omega)).1, (h n (by omega)).2, fndK_congr (fun i hi => h i (by omega))]
def ext (f : Nat → Int) (m : Nat) (x : Int) : Nat → Int := fun i => if i = m then x else f i
theorem ext_at (f : Nat → Int) (m : Nat) (x : Int) : ext f m x m = x := if_pos rfl
theorem ext_ne {f : Nat → Int} {m i : Nat} {x : Int} (h : i ≠ m) : ext f m x i = f i := if_neg h
theorem ext_lt {f : Nat → Int} {m i : Nat} {x : Int} (h : i < m) : ext f m x i = f i := if_neg (by omega)
structure Ga where
  n : Nat
  P : Nat → Int
  T : Nat → Int
  D : Nat → Int
  A : Nat → Int
def ga0 (root : Int) : Ga := ⟨1, fun _ => -1, fun _ => root, fun _ => 0, fun _ => 0⟩
/-- the node above, -1 where there is none -/
def upG (s : Ga) (i : Nat) (p t vocab : Int) : Int := if -1 ≤ p ∧ p < i ∧ 1 ≤ t ∧ t < vocab then s.A (p + 1).toNat else -1
def gaOut (s : Ga) (i : Nat) (x : Int) : Ga := { s with A := ext s.A (i + 1) x }
def gaNew (s : Ga) (i : Nat) (up t : Int) : Ga := ⟨s.n + 1, ext s.P s.n up, ext s.T s.n t, ext s.D s.n (s.D up.toNat + 1), ext s.A (i + 1) s.n⟩
def gaN (s : Ga) (i : Nat) (p t vocab : Int) : Ga :=
  if upG s i p t vocab = -1 then gaOut s i (-1)
  else match fndK s.P s.T s.n (upG s i p t vocab) t with
    | some v => gaOut s i v
    | none => gaNew s i (upG s i p t vocab) t
def gaS (root vocab : Int) (Pr Tr : Nat → Int) : Nat → Ga
  | 0 => ga0 root
  | i + 1 => gaN (gaS root vocab Pr Tr i) i (Pr i) (Tr i) vocab
structure GaOk (vocab : Int) (s : Ga) (k : Nat) : Prop where
  one : 1 ≤ s.n
  le : s.n ≤ k + 1
  at_ : ∀ j, j ≤ k → -1 ≤ s.A j ∧ s.A j < s.n
  root : s.P 0 = -1 ∧ s.D 0 = 0
  par : ∀ i, 0 < i → i < s.n → 0 ≤ s.P i ∧ s.P i < i ∧ s.D i = s.D (s.P i).toNat + 1 ∧ 1 ≤ s.T i ∧ s.T i < vocab
  dep : ∀ i, i < s.n → 0 ≤ s.D i ∧ s.D i ≤ i
theorem GaOk.start (vocab root : Int) : GaOk vocab (ga0 root) 0 := ⟨Nat.le_refl _, Nat.le_refl _, fun j _ => ⟨by show (-1 : Int) ≤ 0; omega, by show (0 : Int) < 1; omega⟩, ⟨rfl, rfl⟩, fun i h1 h2 => absurd h2 (by show ¬ i < 1; omega), fun i _ => ⟨Int.le_refl _, by show (0 : Int) ≤ i; omega⟩⟩
theorem GaOk.up {vocab : Int} {s : Ga} {k : Nat} (h : GaOk vocab s k) (p t : Int) : -1 ≤ upG s k p t vocab ∧ upG s k p t vocab < s.n ∧ (upG s k p t vocab ≠ -1 → 1 ≤ t ∧ t < vocab) := by
  have := h.one
  unfold upG
  split
  · next c =>
    have := h.at_ (p + 1).toNat (by omega)
    exact ⟨this.1, this.2, fun _ => ⟨c.2.2.1, c.2.2.2⟩⟩
  · exact ⟨by omega, by omega, fun c => absurd rfl c⟩
theorem GaOk.out {vocab : Int} {s : Ga} {k : Nat} (h : GaOk vocab s k) {x : Int} (h1 : -1 ≤ x) (h2 : x < s.n) : GaOk vocab (gaOut s k x) (k + 1) := by
  refine ⟨h.one, by have := h.le; show s.n ≤ k + 1 + 1; omega, fun j hj => ?_, h.root, h.par, h.dep⟩
  show -1 ≤ ext s.A (k + 1) x j ∧ ext s.A (k + 1) x j < s.n
  by_cases e : j = k + 1
  · subst e; rw [ext_at]; exact ⟨h1, h2⟩
  · rw [ext_ne e]; exact h.at_ j (by omega)
theorem GaOk.new {vocab : Int} {s : Ga} {k : Nat} (h : GaOk vocab s k) {up t : Int} (h1 : 0 ≤ up) (h2 : up < s.n) (h3 : 1 ≤ t) (h4 : t < vocab) : GaOk vocab (gaNew s k up t) (k + 1) := by
  have ho := h.one
  have hl := h.le
  refine ⟨by show 1 ≤ s.n + 1; omega, by show s.n + 1 ≤ k + 1 + 1; omega, fun j hj => ?_, ⟨?_, ?_⟩, fun i i1 i2 => ?_, fun i hi => ?_⟩
  · show -1 ≤ ext s.A (k + 1) s.n j ∧ ext s.A (k + 1) s.n j < ((s.n + 1 : Nat) : Int)
    by_cases e : j = k + 1
    · subst e; rw [ext_at]; omega
    · rw [ext_ne e]; have := h.at_ j (by omega); omega
  · show ext s.P s.n up 0 = -1
    rw [ext_lt (by omega)]; exact h.root.1
  · show ext s.D s.n _ 0 = 0
    rw [ext_lt (by omega)]; exact h.root.2
  · have i2 : i < s.n + 1 := i2
    show 0 ≤ ext s.P s.n up i ∧ ext s.P s.n up i < i ∧ ext s.D s.n (s.D up.toNat + 1) i = ext s.D s.n (s.D up.toNat + 1) (ext s.P s.n up i).toNat + 1 ∧ 1 ≤ ext s.T s.n t i ∧ ext s.T s.n t i < vocab
    by_cases e : i = s.n
    · subst e
      rw [ext_at, ext_at, ext_at, ext_lt (by omega)]
      exact ⟨h1, h2, rfl, h3, h4⟩
    · have k1 := h.par i i1 (by omega)
      rw [ext_ne e, ext_ne e, ext_ne e, ext_lt (by omega)]
      exact k1
  · have hi : i < s.n + 1 := hi
    show 0 ≤ ext s.D s.n (s.D up.toNat + 1) i ∧ ext s.D s.n (s.D up.toNat + 1) i ≤ i
    by_cases e : i = s.n
    · subst e
      have k1 := h.dep up.toNat (by omega)
      rw [ext_at]
      omega
    · rw [ext_ne e]; exact h.dep i (by omega)
theorem GaOk.next {vocab : Int} {s : Ga} {k : Nat} (h : GaOk vocab s k) (p t : Int) : GaOk vocab (gaN s k p t vocab) (k + 1) := by
  obtain ⟨u1, u2, u3⟩ := h.up p t
  have ho := h.one
  unfold gaN
  generalize upG s k p t vocab = up at u1 u2 u3
  split
  · exact h.out (by omega) (by omega)
  · next c =>
    have := u3 c
    split
    · next v hv =>
      obtain ⟨q1, q2, _, _⟩ := fndK_some hv
      exact h.out (by omega) q2
    · exact h.new (by omega) u2 this.1 this.2
theorem gaS_ok (root vocab : Int) (Pr Tr : Nat → Int) : ∀ k, GaOk vocab (gaS root vocab Pr Tr k) k
  | 0 => GaOk.start vocab root
  | k + 1 => (gaS_ok root vocab Pr Tr k).next _ _
/-- the map's answers behind a new node -/
theorem fndK_new (s : Ga) (k : Nat) (up t : Int) (h : 1 ≤ s.n) (a b : Int) : updK (fndK s.P s.T s.n) up t s.n a b = fndK (gaNew s k up t).P (gaNew s k up t).T (gaNew s k up t).n a b := by
  show _ = fndK (ext s.P s.n up) (ext s.T s.n t) (s.n + 1) a b
  unfold updK
  rw [show fndK (ext s.P s.n up) (ext s.T s.n t) (s.n + 1) a b = if s.n = 0 then none else if a = ext s.P s.n up s.n ∧ b = ext s.T s.n t s.n then some (s.n : Int) else fndK (ext s.P s.n up) (ext s.T s.n t) s.n a b from rfl]
  rw [if_neg (show ¬ s.n = 0 by omega), ext_at, ext_at, fndK_congr (fun i hi => ⟨ext_lt hi, ext_lt hi⟩)]
/-- every node has the root's depth below its own -/
theorem GaOk.deep {vocab : Int} {s : Ga} {k : Nat} (h : GaOk vocab s k) {i : Nat} (h1 : 0 < i) (h2 : i < s.n) : s.D 0 < s.D i := by
  have k1 := h.par i h1 h2
  have k2 := h.dep (s.P i).toNat (by omega)
  rw [h.root.2, k1.2.2.1]
  omega
end Go.Proofs.Ytjjnfpeeipainaa.Cl
namespace Go.Proofs.Ytjjnfpeeipainaa.Cl
open Go.RowKit
/-! What gather's loop keeps in memory. -/
theorem own_offT {w : World} {b b' : Nat} {e e' : TypeId} {sz sz' : Nat} {v v' : Value} {n n' : Nat} {cs cs' : Nat → Value} (h : Own w b e sz v n cs) (h' : Own w b' e' sz' v' n' cs') (hne : e ≠ e') : Off v v' := by
  intro k hk hk'
  rcases h.2 with ⟨rfl, _⟩ | ⟨g, cap, cur, rfl, _, hgg, _⟩
  · simp [Value.ownBlock] at hk
  · rcases h'.2 with ⟨rfl, _⟩ | ⟨g', cap', cur', rfl, _, hgg', _⟩
    · simp [Value.ownBlock] at hk'
    · simp only [Value.ownBlock, Option.some.injEq] at hk hk'
      subst hk
      subst hk'
      rw [hgg] at hgg'
      simp at hgg'
      exact hne hgg'.2
theorem own_noM {w : World} {b : Nat} {e : TypeId} {sz : Nat} {v : Value} {n : Nat} {cs : Nat → Value} {M : Nat} {G : Int → Int → Option Int} (h : Own w b e sz v n cs) (k : KMap w M G) : some M ≠ v.ownBlock := by
  intro hk
  obtain ⟨es, clock, q⟩ := k
  rcases h.2 with ⟨rfl, _⟩ | ⟨g, cap, cur, rfl, _, hgg, _⟩
  · simp [Value.ownBlock] at hk
  · simp only [Value.ownBlock, Option.some.injEq] at hk
    subst hk
    rw [q.blk] at hgg
    cases hgg
theorem Own.blocks {w w' : World} {b : Nat} {e : TypeId} {sz : Nat} {v : Value} {n : Nat} {cs : Nat → Value} (h : Own w b e sz v n cs) (f : ∀ k, v.ownBlock = some k → w'.heap[k]? = w.heap[k]?) : Own w' b e sz v n cs := by
  refine ⟨h.1, ?_⟩
  rcases h.2 with hn | ⟨g, cap, cur, rfl, hb, hgg, rest⟩
  · exact .inl hn
  · exact .inr ⟨g, cap, cur, rfl, hb, (f g rfl).trans hgg, rest⟩
structure GaW (w wr : World) (M n : Nat) (P T D : Nat → Int) (m : Nat) (A : Nat → Int) (G : Int → Int → Option Int) (v7 v9 : Value) : Prop where
  nod : Own wr w.heap.size 61 3 v7 n (nds P T D)
  at_ : Own wr w.heap.size 3 1 v9 m (fun j => .int .i64 (A j))
  map : KMap wr M G
  low : Below w.heap.size w wr
  mb : w.heap.size ≤ M
theorem GaW.fresh {w wr w' : World} {M n : Nat} {P T D : Nat → Int} {m : Nat} {A : Nat → Int} {G : Int → Int → Option Int} {v7 v9 : Value} (h : GaW w wr M n P T D m A G v7 v9) (f : Below wr.heap.size wr w') : GaW w w' M n P T D m A G v7 v9 :=
  ⟨h.nod.kept f, h.at_.kept f, h.map.of_block (f.block M h.map.lt), h.low.trans (f.mono h.low.size), h.mb⟩
theorem GaW.appA {w wr w' : World} {M n : Nat} {P T D : Nat → Int} {m m' : Nat} {A A' : Nat → Int} {G : Int → Int → Option Int} {v7 v9 v9' : Value} (h : GaW w wr M n P T D m A G v7 v9) (ho : Own w' w.heap.size 3 1 v9' m' (fun j => .int .i64 (A' j))) (ha : App wr w' v9 v9') : GaW w w' M n P T D m' A' G v7 v9' :=
  ⟨ha.own h.nod (own_offT h.at_ h.nod (by decide)), ho, h.map.of_block (ha.grown.block M h.map.lt (own_noM h.at_ h.map)), ha.below h.low h.at_ (Nat.le_refl _) h.low.size, h.mb⟩
theorem GaW.appN {w wr w' : World} {M n n' : Nat} {P T D P' T' D' : Nat → Int} {m : Nat} {A : Nat → Int} {G : Int → Int → Option Int} {v7 v9 v7' : Value} (h : GaW w wr M n P T D m A G v7 v9) (ho : Own w' w.heap.size 61 3 v7' n' (nds P' T' D')) (ha : App wr w' v7 v7') : GaW w w' M n' P' T' D' m A G v7' v9 :=
  ⟨ho, ha.own h.at_ (own_offT h.nod h.at_ (by decide)), h.map.of_block (ha.grown.block M h.map.lt (own_noM h.nod h.map)), ha.below h.low h.nod (Nat.le_refl _) h.low.size, h.mb⟩
theorem GaW.upd {w wr : World} {M n : Nat} {P T D : Nat → Int} {m : Nat} {A : Nat → Int} {G : Int → Int → Option Int} {v7 v9 : Value} (h : GaW w wr M n P T D m A G v7 v9) {a b : Int} (ha : fits a) (hb : fits b) (v : Int) :
    ∃ w', (Instr.mapUpdate 121 (.map (some M)) (.agg #[.int .i64 a, .int .i64 b]) (.int .i64 v)).run Try.prog wr = .ok () w' ∧ GaW w w' M n P T D m A (updK G a b v) v7 v9 ∧ (∀ k, k ≠ M → w'.heap[k]? = wr.heap[k]?) ∧ w'.heap.size = wr.heap.size := by
  obtain ⟨w', r1, r2, r3, r4, r5, r6, r7⟩ := h.map.upd ha hb v
  have n1 := own_noM h.nod h.map
  have n2 := own_noM h.at_ h.map
  have hmb := h.mb
  refine ⟨w', r1, ⟨h.nod.blocks (fun k hk => r3 k (fun e => n1 (by rw [hk, e]))), h.at_.blocks (fun k hk => r3 k (fun e => n2 (by rw [hk, e]))), r2, ⟨r5.trans h.low.os, r6.trans h.low.tape, r7.trans h.low.output, by rw [r4]; exact h.low.size, fun k hk => (r3 k (by omega)).trans (h.low.block k hk)⟩, hmb⟩, r3, r4⟩
theorem own_node1 (w : World) (P T D : Nat → Int) : Own (w.alloc (.cells #[.int .i64 (P 0), .int .i64 (T 0), .int .i64 (D 0)] 61)) w.heap.size 61 3 (.slice (some ⟨w.heap.size, 0, none⟩) 1 1) 1 (nds P T D) := by
  refine ⟨by simp, .inr ⟨w.heap.size, 1, _, rfl, Nat.le_refl _, World.alloc_heap_new _ _, Nat.le_refl _, by unfold maxLen; omega, rfl, ?_⟩⟩
  rfl
theorem own_int1 (w : World) (A : Nat → Int) : Own (w.alloc (.cells #[.int .i64 (A 0)] 3)) w.heap.size 3 1 (.slice (some ⟨w.heap.size, 0, none⟩) 1 1) 1 (fun j => .int .i64 (A j)) := by
  refine ⟨by simp, .inr ⟨w.heap.size, 1, _, rfl, Nat.le_refl _, World.alloc_heap_new _ _, Nat.le_refl _, by unfold maxLen; omega, rfl, ?_⟩⟩
  rfl
theorem GaW.start (w : World) (root : Int) : GaW w (((w.alloc (.cells #[.int .i64 (-1), .int .i64 root, .int .i64 0] 61)).alloc (.map #[] 0)).alloc (.cells #[.int .i64 0] 3)) (w.heap.size + 1) 1 (ga0 root).P (ga0 root).T (ga0 root).D 1 (ga0 root).A (fndK (ga0 root).P (ga0 root).T 1) (.slice (some ⟨w.heap.size, 0, none⟩) 1 1) (.slice (some ⟨w.heap.size + 2, 0, none⟩) 1 1) := by
  have e1 : (w.alloc (.cells #[.int .i64 (-1), .int .i64 root, .int .i64 0] 61)).heap.size = w.heap.size + 1 := by simp
  have e2 : ((w.alloc (.cells #[.int .i64 (-1), .int .i64 root, .int .i64 0] 61)).alloc (.map #[] 0)).heap.size = w.heap.size + 2 := by simp
  have m1 := KMap.made (w.alloc (.cells #[.int .i64 (-1), .int .i64 root, .int .i64 0] 61))
  have o1 := own_node1 w (ga0 root).P (ga0 root).T (ga0 root).D
  have o2 := own_int1 ((w.alloc (.cells #[.int .i64 (-1), .int .i64 root, .int .i64 0] 61)).alloc (.map #[] 0)) (ga0 root).A
  have f1 := fresh_alloc (w.alloc (.cells #[.int .i64 (-1), .int .i64 root, .int .i64 0] 61)) (.map #[] 0)
  have f2 := fresh_alloc ((w.alloc (.cells #[.int .i64 (-1), .int .i64 root, .int .i64 0] 61)).alloc (.map #[] 0)) (.cells #[.int .i64 0] 3)
  rw [e1] at m1
  refine ⟨(o1.kept f1).kept f2, ?_, (m1.of_block (f2.block _ m1.lt)).congr (fun a b => rfl), fresh_trans (fresh_trans (fresh_alloc _ _) f1) f2, by omega⟩
  have o3 := o2.weaken (base' := w.heap.size) (by rw [e2]; omega)
  rw [e2] at o3
  exact o3
end Go.Proofs.Ytjjnfpeeipainaa.Cl
namespace Go.Proofs.Ytjjnfpeeipainaa.Cl
open Go.RowKit
/-! gather. -/
/-- One element of three cells more, at a step of a region that draws its order. -/
theorem step_app3 {P : Program} (w : World) {ops : Array Oper} {o : Oper} {a : Act} {K : Act → World → Prop} {Q : Exit → Act → World → Prop} {E : Prop} (hgd : o.guard = none) (s x : Operand) (t : TypeId)
    (ho : o.op = .call { callee := .builtin .append, args := #[s, x], argTypes := #[t, t] })
    (base : Nat) (e : TypeId) (z : Value) (bytes : Nat) (ht : P.underlying t = some (.slice e)) (hinfo : (P.info? e).map (fun i => (i.zero, i.size, i.bytes)) = some (some z, 3, bytes)) (h6 : z.cells.size = 3)
    (v : Value) (n : Nat) (cs : Nat → Value) (hs : a.eval s = v) (hown : Own w base e 3 v n cs)
    (g c : Nat) (hx : a.eval x = .slice (some ⟨g, 0, none⟩) 1 c) (hc : ∀ j, j < 1 * 3 → w.cell? ⟨g, j, none⟩ = some (cs (n * 3 + j))) (h1c : ∀ j, (cs j).oneCell' = true)
    (b1 : n < 9223372036854775807) (b2 : (n + 1) * bytes ≤ 140737488355328) (hb : base ≤ w.heap.size)
    (h : ∀ g' cap w', Own w' base e 3 (.slice (some ⟨g', 0, none⟩) (n + 1) cap) (n + 1) cs → App w w' v (.slice (some ⟨g', 0, none⟩) (n + 1) cap) → K (a.put o.dst (.slice (some ⟨g', 0, none⟩) (n + 1) cap)) w') :
    if Region.wanted o (yielded ops a.tmps) = true then Oper.wp P o a w K Q else E := by
  obtain ⟨i, hi, hz0, hz1, hz2⟩ := info_parts hinfo
  refine step_append_lies w hgd s x t ho base e i z 3 bytes ht hi hz0 hz1 hz2 h6 (by decide) v n _ hs hown ⟨g, 0, none⟩ 1 c [cs (n * 3), cs (n * 3 + 1), cs (n * 3 + 2)] hx rfl ?_ (by intro u hu; simp at hu; rcases hu with rfl | rfl | rfl <;> exact h1c _) (by decide) (by unfold maxLen; omega) b2 hb w.heap.size rfl ?_
  · intro j u hj
    match j, hj with
    | 0, hj => simp at hj; subst hj; rw [add_lit0]; exact hc 0 (by decide)
    | 1, hj => simp at hj; subst hj; rw [add_lit0]; exact hc 1 (by decide)
    | 2, hj => simp at hj; subst hj; rw [add_lit0]; exact hc 2 (by decide)
  · intro g' cap w' h2 h3 h4 h5
    refine h g' cap w' ?_ ⟨h3, fun k hk => ?_⟩
    · unfold Own
      have e1 := news_len n 1 3 cs
      rw [← e1]
      exact h2
    · simp only [Value.ownBlock, Option.some.injEq] at hk
      subst hk
      rcases h4 with h4 | h4
      · exact .inl h4
      · exact .inr (by omega)
theorem GaW.congrG {w wr : World} {M n : Nat} {P T D : Nat → Int} {m : Nat} {A : Nat → Int} {G G' : Int → Int → Option Int} {v7 v9 : Value} (h : GaW w wr M n P T D m A G v7 v9) (e : ∀ a b, G a b = G' a b) : GaW w wr M n P T D m A G' v7 v9 := ⟨h.nod, h.at_, h.map.congr e, h.low, h.mb⟩
set_option maxRecDepth 20000 in
set_option maxHeartbeats 8000000 in
theorem gather_any {w : World} {ao : Option Addr} {R cap : Nat} {L : List (Int × Int)} {root vocab : Int} (h : RdA w ao 2 R cap (rwF L)) (hR : R ≤ 1048576) (hv : fits vocab) :
    Calls Try.prog 38 #[.int .i64 root, .slice ao R cap, .int .i64 vocab] w fun e w' => ∃ u c, e = .returned (.slice u (gaS root vocab (fun i => (L.getD i (0, 0)).1) (fun i => (L.getD i (0, 0)).2) R).n c) ∧ Own w' w.heap.size 61 3 (.slice u (gaS root vocab (fun i => (L.getD i (0, 0)).1) (fun i => (L.getD i (0, 0)).2) R).n c) (gaS root vocab (fun i => (L.getD i (0, 0)).1) (fun i => (L.getD i (0, 0)).2) R).n (nds (gaS root vocab (fun i => (L.getD i (0, 0)).1) (fun i => (L.getD i (0, 0)).2) R).P (gaS root vocab (fun i => (L.getD i (0, 0)).1) (fun i => (L.getD i (0, 0)).2) R).T (gaS root vocab (fun i => (L.getD i (0, 0)).1) (fun i => (L.getD i (0, 0)).2) R).D) ∧ Below w.heap.size w w' := by
  have HV := hidd hv
  have HH := hidd h
  obtain ⟨S, HS⟩ : ∃ S, Hid (S = gaS root vocab (fun i => (L.getD i (0, 0)).1) (fun i => (L.getD i (0, 0)).2)) := ⟨_, rfl⟩
  rw [← HS.out]
  have HSok : Hid (∀ k, GaOk vocab (S k) k) := fun k => by rw [HS.out]; exact gaS_ok _ _ _ _ k
  have HSn : Hid (∀ k, S (k + 1) = gaN (S k) k (L.getD k (0, 0)).1 (L.getD k (0, 0)).2 vocab) := fun k => by rw [HS.out]; rfl
  have HG0 : Hid (GaW w (((w.alloc (.cells #[.int .i64 (-1), .int .i64 root, .int .i64 0] 61)).alloc (.map #[] 0)).alloc (.cells #[.int .i64 0] 3)) (w.heap.size + 1) 1 (S 0).P (S 0).T (S 0).D (0 + 1) (S 0).A (fndK (S 0).P (S 0).T 1) (.slice (some ⟨w.heap.size, 0, none⟩) 1 1) (.slice (some ⟨w.heap.size + 2, 0, none⟩) (0 + 1) 1)) := by
    rw [HS.out]; exact GaW.start w root
  have HN0 : Hid (1 = (S 0).n) := by rw [HS.out]; rfl
  clear h hv
  have hmm : ∀ w : World, (Instr.makeMap 121 none).run Try.prog w = .ok (.map (some w.heap.size)) (w.alloc (.map #[] 0)) := fun _ => rfl
  go_enter Try.func38, Try.ntmps38
  go_wp2
  go_loopw [7, 9, 23] (fun v7 v9 i wr => ∃ (k n : Nat) (u7 u9 : Option Addr) (c7 c9 : Nat), k ≤ R ∧ i = .int .i64 (k : Int) ∧ v7 = .slice u7 n c7 ∧ v9 = .slice u9 (k + 1) c9 ∧ Hid (n = (S k).n) ∧ Hid (GaW w wr (w.heap.size + 1) n (S k).P (S k).T (S k).D (k + 1) (S k).A (fndK (S k).P (S k).T n) (.slice u7 n c7) (.slice u9 (k + 1) c9))) (fun _ _ i _ => R - (intOf i).toNat)
  case atStart => exact ⟨0, 1, _, _, _, _, Nat.zero_le _, by first | rfl | simp, by first | rfl | simp, by first | rfl | simp, HN0, by first | exact HG0.out | (have := HG0.out; simpa using this)⟩
  case round =>
    clear HG0 HN0 hmm
    obtain ⟨k, n, u7, u9, c7, c9, hk, rfl, rfl, rfl, HN, HG⟩ := hrel
    by_cases hlt : k < R
    · have i1 : (k : Int) < (R : Int) := by omega
      have i0 : (0 : Int) ≤ (k : Int) := by omega
      obtain ⟨b1, o1, hu, h1⟩ := (HH.out.fresh HG.out.low).at_ (by omega)
      subst hu
      have c1 := h1 (k * 2) (by omega)
      have c2 := h1 (k * 2 + 1) (by omega)
      rw [rwF_1] at c1
      rw [rwF_2, ← Nat.add_assoc] at c2
      clear h1
      obtain ⟨p, HP⟩ : ∃ p, Hid (p = (L.getD k (0, 0)).1) := ⟨_, rfl⟩
      obtain ⟨t, HT⟩ : ∃ t, Hid (t = (L.getD k (0, 0)).2) := ⟨_, rfl⟩
      rw [← HP.out] at c1
      rw [← HT.out] at c2
      obtain ⟨b9, o9, hu9, h9⟩ := (own_rda HG.out.at_).one (by omega)
      subst hu9
      have HA9 := hidd h9
      clear h9
      obtain ⟨x1, HX1⟩ : ∃ x, Hid (x = wr.heap.size) := ⟨_, rfl⟩
      obtain ⟨w1, HW1⟩ : ∃ x, Hid (x = wr.alloc (.cells #[.int .i64 p, .int .i64 t] 48)) := ⟨_, rfl⟩
      have HF1 : Hid (Below wr.heap.size wr w1) := by rw [HW1.out]; exact fresh_alloc _ _
      have q1 : w1.cell? ⟨x1, 0, none⟩ = some (.int .i64 p) := by rw [HW1.out, HX1.out]; unfold World.cell?; rw [World.alloc_heap_new]; rfl
      have q2 : w1.cell? ⟨x1, 1, none⟩ = some (.int .i64 t) := by rw [HW1.out, HX1.out]; unfold World.cell?; rw [World.alloc_heap_new]; rfl
      have HG1 := hidd (HG.out.fresh HF1.out)
      have HOk := hidd (HSok.out k)
      obtain ⟨tb, HTB⟩ : ∃ b, Hid (b = decide (-1 ≤ p ∧ p < (k : Int) ∧ 1 ≤ t ∧ t < vocab)) := ⟨_, rfl⟩
      obtain ⟨up, HUP⟩ : ∃ u, Hid (u = upG (S k) k p t vocab) := ⟨_, rfl⟩
      have HUP1 := hidd (HOk.out.up p t)
      rw [← HUP.out, ← HN.out] at HUP1
      go_upto_region 7 with fail
      rw [← HW1.out, ← HX1.out]
      clear c1 c2
      go_upto_region 8 with fail
      go_cut [28, 29, 30, 31, 32, 33, 34, 35, 36, 37, 38, 39, 40, 41, 42, 43, 44, 45, 46, 47] (fun _ _ _ _ _ _ _ _ _ _ _ _ _ _ _ _ _ _ _ vt wx => wx = w1 ∧ vt = .bool tb)
      case first =>
        by_cases a1 : -1 ≤ p
        · have da1 : decide ((-1 : Int) ≤ p) = true := decide_eq_true a1
          by_cases a2 : p < (k : Int)
          · have da2 : decide (p < (k : Int)) = true := decide_eq_true a2
            by_cases a3 : 1 ≤ t
            · have da3 : decide ((1 : Int) ≤ t) = true := decide_eq_true a3
              by_cases a4 : t < vocab
              · have da4 : decide (t < vocab) = true := decide_eq_true a4
                have ht : tb = true := by rw [HTB.out]; exact decide_eq_true ⟨a1, a2, a3, a4⟩
                clear HTB; subst ht
                go_wp2_with fail
                go_meet
                case rel => exact ⟨rfl, rfl⟩
              · have da4 : decide (t < vocab) = false := decide_eq_false a4
                have ht : tb = false := by rw [HTB.out]; exact decide_eq_false (fun q => a4 q.2.2.2)
                clear HTB; subst ht
                go_wp2_with fail
                go_meet
                case rel => exact ⟨rfl, rfl⟩
            · have da3 : decide ((1 : Int) ≤ t) = false := decide_eq_false a3
              have ht : tb = false := by rw [HTB.out]; exact decide_eq_false (fun q => a3 q.2.2.1)
              clear HTB; subst ht
              go_wp2_with fail
              go_meet
              case rel => exact ⟨rfl, rfl⟩
          · have da2 : decide (p < (k : Int)) = false := decide_eq_false a2
            have ht : tb = false := by rw [HTB.out]; exact decide_eq_false (fun q => a2 q.2.1)
            clear HTB; subst ht
            go_wp2_with fail
            go_meet
            case rel => exact ⟨rfl, rfl⟩
        · have da1 : decide ((-1 : Int) ≤ p) = false := decide_eq_false a1
          have ht : tb = false := by rw [HTB.out]; exact decide_eq_false (fun q => a1 q.1)
          clear HTB; subst ht
          go_wp2_with fail
          go_meet
          case rel => exact ⟨rfl, rfl⟩
      case rest =>
        obtain ⟨hw, hvv⟩ := hcut
        subst hvv
        rw [hw]
        clear hw
        go_upto_if 47 with fail
        go_cut [12, 48, 49, 50, 51, 52, 53] (fun vu _ _ _ _ _ _ wx => wx = w1 ∧ vu = .int .i64 up)
        case first =>
          cases tb with
          | true =>
            have hq : -1 ≤ p ∧ p < (k : Int) ∧ 1 ≤ t ∧ t < vocab := of_decide_eq_true HTB.out.symm
            obtain ⟨j, HJ⟩ : ∃ j : Nat, Hid (j = (p + 1).toNat) := ⟨_, rfl⟩
            have hjk : j < k + 1 := by have := HJ.out; omega
            have e1 : IntKind.i64.wrap (p + 1) = (j : Int) := by rw [IntKind.wrap_i64]; have := HJ.out; omega
            have e2 : p + 1 = (j : Int) := by have := HJ.out; omega
            have HE : Hid (up = (S k).A j) := by show up = _; rw [HUP.out, HJ.out]; unfold upG; rw [if_pos hq]
            have c3 : w1.cell? ⟨b9, o9 + j, none⟩ = some (.int .i64 up) := by rw [HE.out]; exact fresh_cell HF1.out (HA9.out j hjk)
            have i2 : (0 : Int) ≤ (j : Int) := by omega
            have i3 : (j : Int) < ((k + 1 : Nat) : Int) := by omega
            have i4 : (j : Int) < (k : Int) + 1 := by omega
            clear HTB hq e2
            go_wp2_with fail
            go_meet
            case rel => exact ⟨rfl, rfl⟩
          | false =>
            have hq : ¬ (-1 ≤ p ∧ p < (k : Int) ∧ 1 ≤ t ∧ t < vocab) := of_decide_eq_false HTB.out.symm
            have HE : Hid (up = -1) := by show up = _; rw [HUP.out]; unfold upG; rw [if_neg hq]
            clear HTB hq
            go_wp2_with fail
            go_meet
            case rel => exact ⟨rfl, by rw [HE.out]⟩
        case rest =>
          obtain ⟨hw, hvv⟩ := hcut
          subst hvv
          rw [hw]
          clear hw HTB
          have hsz := HG1.out.low.size
          by_cases hup : up = -1
          · have d1 : decide (up = -1) = true := decide_eq_true hup
            have d2 : (up == -1) = true := by simp [hup]
            have HNX : Hid (S (k + 1) = gaOut (S k) k (-1)) := by show _ = _; rw [HSn.out, ← HP.out, ← HT.out]; unfold gaN; rw [← HUP.out, if_pos hup]
            have HOa : Hid (Own w1 w.heap.size 3 1 (.slice (some ⟨b9, o9, none⟩) (k + 1) c9) (k + 1) (fun j => .int .i64 (ext (S k).A (k + 1) (-1) j))) := HG1.out.at_.congr (fun j hj => by rw [ext_lt (by omega)])
            clear hup
            go_wp2_with (at_builtin; refine wpList_app1 _ rfl _ _ 37 rfl w.heap.size 3 (.int .i64 0) 8 Try.underlying37 infoIs rfl _ (k + 1) (fun j => .int .i64 (ext (S k).A (k + 1) (-1) j)) rfl (HOa.out.kept (fresh_alloc _ _)) _ 1 rfl (new_int _ _ (ext_at _ _ _)) rfl (by omega) (by omega) (by simp; omega) ?_)
            intro v' w2 hown' happ
            obtain ⟨u8, c8, rfl, _⟩ := hown'.rd
            have HG2 := hidd ((HG1.out.fresh (fresh_alloc _ _)).appA hown' happ)
            clear happ hown' HOa
            go_wp2
            go_roundw
            case rel => exact ⟨k + 1, n, _, _, _, _, by omega, by go_num, rfl, rfl, by rw [HNX.out]; exact HN, by rw [HNX.out]; exact HG2⟩
            case measure => simp [intOf]; omega
          · have d1 : decide (up = -1) = false := decide_eq_false hup
            have d2 : (up == -1) = false := by simp [hup]
            have hu1 := HUP1.out
            have ht := hu1.2.2 hup
            have hnk : n ≤ k + 1 := by rw [HN.out]; exact HOk.out.le
            have FU : Hid (fits up) := by show fits up; unfold fits; omega
            have FT : Hid (fits t) := by have := HV.out; show fits t; unfold fits at *; omega
            obtain ⟨x2, HX2⟩ : ∃ x, Hid (x = w1.heap.size) := ⟨_, rfl⟩
            obtain ⟨w2, HW2⟩ : ∃ x, Hid (x = w1.alloc (.cells #[.int .i64 up, .int .i64 t] 48)) := ⟨_, rfl⟩
            have HF2 : Hid (Below w1.heap.size w1 w2) := by rw [HW2.out]; exact fresh_alloc _ _
            have r1 : w2.cell? ⟨x2, 0, none⟩ = some (.int .i64 up) := by rw [HW2.out, HX2.out]; unfold World.cell?; rw [World.alloc_heap_new]; rfl
            have r2 : w2.cell? ⟨x2, 1, none⟩ = some (.int .i64 t) := by rw [HW2.out, HX2.out]; unfold World.cell?; rw [World.alloc_heap_new]; rfl
            have q4 : w2.cell? ⟨x1, 1, none⟩ = some (.int .i64 t) := fresh_cell HF2.out q2
            have HG2 := hidd (HG1.out.fresh HF2.out)
            have hsz2 := HG2.out.low.size
            go_upto_region 13 with fail
            rw [← HW2.out, ← HX2.out]
            clear q1 q2
            cases hf : fndK (S k).P (S k).T n up t with
            | some v =>
              have lk : (Instr.lookup 121 (.map (some (w.heap.size + 1))) (.agg #[.int .i64 up, .int .i64 t]) true).run Try.prog w2 = .ok (.tuple #[.int .i64 v, .bool true]) w2 := HG2.out.map.look_some FU.out FT.out hf
              have HNX : Hid (S (k + 1) = gaOut (S k) k v) := by show _ = _; rw [HSn.out, ← HP.out, ← HT.out]; unfold gaN; rw [← HUP.out, if_neg hup, ← HN.out, hf]
              have HOa : Hid (Own w2 w.heap.size 3 1 (.slice (some ⟨b9, o9, none⟩) (k + 1) c9) (k + 1) (fun j => .int .i64 (ext (S k).A (k + 1) v j))) := HG2.out.at_.congr (fun j hj => by rw [ext_lt (by omega)])
              clear hup hf hu1
              go_wp2_with (at_builtin; refine wpList_app1 _ rfl _ _ 37 rfl w.heap.size 3 (.int .i64 0) 8 Try.underlying37 infoIs rfl _ (k + 1) (fun j => .int .i64 (ext (S k).A (k + 1) v j)) rfl (HOa.out.kept (fresh_alloc _ _)) _ 1 rfl (new_int _ _ (ext_at _ _ _)) rfl (by omega) (by omega) (by simp; omega) ?_)
              intro v' w4 hown' happ
              obtain ⟨u8, c8, rfl, _⟩ := hown'.rd
              have HG4 := hidd ((HG2.out.fresh (fresh_alloc _ _)).appA hown' happ)
              clear happ hown' HOa
              go_wp2
              go_roundw
              case rel => exact ⟨k + 1, n, _, _, _, _, by omega, by go_num, rfl, rfl, by rw [HNX.out]; exact HN, by rw [HNX.out]; exact HG4⟩
              case measure => simp [intOf]; omega
            | none =>
              have lk : (Instr.lookup 121 (.map (some (w.heap.size + 1))) (.agg #[.int .i64 up, .int .i64 t]) true).run Try.prog w2 = .ok (.tuple #[.int .i64 0, .bool false]) w2 := HG2.out.map.look_none FU.out FT.out hf
              have HNX : Hid (S (k + 1) = gaNew (S k) k up t) := by show _ = _; rw [HSn.out, ← HP.out, ← HT.out]; unfold gaN; rw [← HUP.out, if_neg hup, ← HN.out, hf]
              obtain ⟨w3, hupd, g3, b3, s3⟩ := HG2.out.upd FU.out FT.out (n : Int)
              have HG3 := hidd g3
              obtain ⟨un, hun⟩ : ∃ un : Nat, up = (un : Int) := ⟨up.toNat, by omega⟩
              subst hun
              have hx1M : x1 ≠ w.heap.size + 1 := by
                have q := HG.out.map.lt
                rw [HX1.out]; omega
              have q5 : w3.cell? ⟨x1, 1, none⟩ = some (.int .i64 t) := by rw [← q4]; unfold World.cell?; simp only [b3 x1 hx1M]
              have hun2 : un < n := by omega
              obtain ⟨b7, o7, hu7, h7⟩ := (own_rda HG3.out.nod).node (by omega)
              subst hu7
              have n3 := (h7 un hun2).2.2
              have HDP := hidd (HOk.out.dep un (by rw [← HN.out]; exact hun2))
              have HCONV : Hid (∀ wx v7 v9, GaW w wx (w.heap.size + 1) (n + 1) (ext (S k).P n un) (ext (S k).T n t) (ext (S k).D n ((S k).D un + 1)) (k + 1 + 1) (ext (S k).A (k + 1) n) (updK (fndK (S k).P (S k).T n) un t n) v7 v9 → GaW w wx (w.heap.size + 1) (n + 1) (S (k + 1)).P (S (k + 1)).T (S (k + 1)).D (k + 1 + 1) (S (k + 1)).A (fndK (S (k + 1)).P (S (k + 1)).T (n + 1)) v7 v9) := fun wx v7 v9 hh => by
                rw [HNX.out, HN.out]
                rw [HN.out] at hh
                exact hh.congrG (fun a b => fndK_new (S k) k un t HOk.out.one a b)
              have HN2 : Hid (n + 1 = (S (k + 1)).n) := by show n + 1 = _; rw [HNX.out, HN.out]; rfl
              obtain ⟨dv, HDV⟩ : ∃ x, Hid (x = (S k).D un) := ⟨_, rfl⟩
              rw [← HDV.out] at n3 HDP HCONV
              have e5 : IntKind.i64.wrap (dv + 1) = dv + 1 := by rw [IntKind.wrap_i64]; have := HDP.out; omega
              have HO7 : Hid (Own w3 w.heap.size 61 3 (.slice (some ⟨b7, o7, none⟩) n c7) n (nds (ext (S k).P n un) (ext (S k).T n t) (ext (S k).D n (dv + 1)))) := HG3.out.nod.congr (fun j hj => nds_congr (fun i hi => ⟨(ext_lt hi).symm, (ext_lt hi).symm, (ext_lt hi).symm⟩) hj)
              have N3 : Hid (∀ j, j < 1 * 3 → (w3.alloc (.cells #[.int .i64 (un : Int), .int .i64 t, .int .i64 (dv + 1)] 61)).cell? ⟨w3.heap.size, j, none⟩ = some (nds (ext (S k).P n un) (ext (S k).T n t) (ext (S k).D n (dv + 1)) (n * 3 + j))) := fun j hj => by
                unfold World.cell?
                rw [World.alloc_heap_new]
                match j, hj with
                | 0, _ => rw [Nat.add_zero, nds_0, ext_at]; rfl
                | 1, _ => rw [nds_1, ext_at]; rfl
                | 2, _ => rw [nds_2, ext_at]; rfl
              have i5 : (0 : Int) ≤ (un : Int) := by omega
              have i6 : (un : Int) < (n : Int) := by omega
              have hsz3 := HG3.out.low.size
              clear hup hf hu1 h7 b3 g3 s3
              go_upto_region 17 with fail
              clear lk hupd r1 r2 q4
              go_region_law ((refine step_app3 _ (by rfl) _ _ _ (by rfl) w.heap.size 61 (.agg #[.int .i64 0, .int .i64 0, .int .i64 0]) 24 Try.underlying57 infoN rfl _ n (nds (ext (S k).P n un) (ext (S k).T n t) (ext (S k).D n (dv + 1))) (by rfl) (by first | exact HO7.out.kept (fresh_alloc _ _) | exact (HO7.out.kept (fresh_alloc _ _)).kept (Below.refl _ _).drew) w3.heap.size 1 (by rfl) (by first | exact N3.out | (intro j hj; have := N3.out j hj; simpa using this)) (fun _ => nds_one _ _ _ _) (by omega) (by omega) (by simp; omega) ?_; intro g' cap' w5 hown5 happ5))
              all_goals
                have happ5 : App (w3.alloc (.cells #[.int .i64 (un : Int), .int .i64 t, .int .i64 (dv + 1)] 61)).drew w5 (.slice (some ⟨b7, o7, none⟩) n c7) (.slice (some ⟨g', 0, none⟩) (n + 1) cap') := happ5
                have HG5 := hidd ((HG3.out.fresh (fresh_alloc w3 _).drew).appN hown5 happ5)
                have hsz5 := HG5.out.low.size
                have HO9 : Hid (Own w5 w.heap.size 3 1 (.slice (some ⟨b9, o9, none⟩) (k + 1) c9) (k + 1) (fun j => .int .i64 (ext (S k).A (k + 1) n j))) := HG5.out.at_.congr (fun j hj => by rw [ext_lt (by omega)])
                clear happ5 hown5 HO7 N3 n3 q5
                go_wp2_with (at_builtin; refine wpList_app1 _ rfl _ _ 37 rfl w.heap.size 3 (.int .i64 0) 8 Try.underlying37 infoIs rfl _ (k + 1) (fun j => .int .i64 (ext (S k).A (k + 1) n j)) rfl (HO9.out.kept (fresh_alloc _ _)) _ 1 rfl (new_int _ _ (ext_at _ _ _)) rfl (by omega) (by omega) (by simp; omega) ?_)
                intro v' w6 hown6 happ6
                obtain ⟨u8, c8, rfl, _⟩ := hown6.rd
                have HG6 := hidd (HCONV.out _ _ _ ((HG5.out.fresh (fresh_alloc _ _)).appA hown6 happ6))
                clear happ6 hown6 HO9
                go_wp2
                go_roundw
                case rel => exact ⟨k + 1, n + 1, _, _, _, _, by omega, by go_num, rfl, rfl, HN2, HG6⟩
                case measure => simp [intOf]; omega
    · obtain rfl : k = R := by omega
      have HEND : Hid (Own wr w.heap.size 61 3 (.slice u7 (S k).n c7) (S k).n (nds (S k).P (S k).T (S k).D)) := by have := HG.out.nod; rw [HN.out] at this; exact this
      have HLOW := hidd HG.out.low
      rw [HN.out]
      clear HG
      go_wp2
      go_ret
      exact ⟨u7, c7, rfl, HEND.out, HLOW.out⟩
end Go.Proofs.Ytjjnfpeeipainaa.Cl
namespace Go.Proofs.Ytjjnfpeeipainaa.Cl
open Go.RowKit
/-! Clone, first, Cut on both sides. -/
theorem own_emptyZ (w : World) (t : TypeId) (sz : Nat) (cs : Nat → Value) : Own (w.alloc (.cells #[] t)) w.heap.size t sz (.slice (some ⟨w.heap.size, 0, none⟩) 0 0) 0 cs := by
  refine ⟨by simp, .inr ⟨w.heap.size, 0, #[], rfl, Nat.le_refl _, ?_, Nat.le_refl _, by simp [maxLen], by simp, by simp⟩⟩
  exact Go.Deep.blk_alloc_new _ _
theorem eqNil_N (a : Addr) (n k : Nat) (w : World) : (binOp .eql 57 (.slice (some a) n k) (.slice none 0 0)).run Try.prog w = .ok (.bool false) w := by
  exact Lib.run_eql_slice_nil (P := Try.prog) w 57 61 (some a) n k 0 0 Try.underlying57
theorem Own.at_ {w : World} {base : Nat} {e : TypeId} {sz n c : Nat} {u : Option Addr} {cs : Nat → Value} (h : Own w base e sz (.slice u n c) n cs) (hn : 0 < n) : ∃ g, u = some ⟨g, 0, none⟩ ∧ base ≤ g ∧ g < w.heap.size ∧ (∀ j, j < n * sz → w.cell? ⟨g, j, none⟩ = some (cs j)) ∧ (∀ j, w.frozen? ⟨g, j, none⟩ = false) := by
  obtain ⟨ao, cap, e1, hr⟩ := h.rd
  injection e1 with e2 _ e3
  subst e2 e3
  obtain ⟨b, off, rfl, hc⟩ := hr.at_ hn
  rcases h.2 with ⟨e4, _⟩ | ⟨g, cap', cur, e4, hb, hgg, _⟩
  · cases e4
  · injection e4 with e5 _ e6
    injection e5 with e5
    injection e5 with e7 e8
    subst e7 e8
    refine ⟨_, rfl, hb, (Array.getElem?_eq_some_iff.1 hgg).1, fun j hj => by simpa using hc j hj, fun j => by simp [World.frozen?, hgg]⟩
set_option maxRecDepth 20000 in
set_option maxHeartbeats 1600000 in
theorem cloneN_any {w : World} {b n cap : Nat} {P T D : Nat → Int} (h : RdA w (some ⟨b, 0, none⟩) 3 n cap (nds P T D)) (h0 : 0 < n) (hn : n * 24 ≤ 140737488351232) :
    Calls Try.prog 59 #[.slice (some ⟨b, 0, none⟩) n cap] w fun e w' => ∃ u c, e = .returned (.slice u n c) ∧ Own w' w.heap.size 61 3 (.slice u n c) n (nds P T D) ∧ Below w.heap.size w w' := by
  obtain ⟨b', o', e', hc⟩ := h.at_ h0
  cases e'
  have HO := hidd (own_emptyZ w 61 3 (nds P T D))
  have HC : Hid (∀ j, j < n * 3 → (w.alloc (.cells #[] 61)).cell? ⟨b, j, none⟩ = some (nds P T D (0 * 3 + j))) := fun j hj => by
    have := hc j hj
    rw [Nat.zero_add] at this
    rw [fresh_cell (fresh_alloc _ _) this, Nat.zero_mul, Nat.zero_add]
  have hq := eqNil_N ⟨b, 0, none⟩ n cap
  clear h hc
  go_enter Try.func59, Try.ntmps59
  go_wp2_with (at_builtin; refine wpList_app _ rfl _ _ 57 rfl w.heap.size 61 (.agg #[.int .i64 0, .int .i64 0, .int .i64 0]) 3 24 Try.underlying57 infoN rfl (by decide) _ 0 (nds P T D) rfl HO.out b n cap rfl HC.out (fun j _ => nds_one _ _ _ _) h0 (by unfold maxLen; omega) (by omega) (by simp) ?_)
  intro v' w6 hown' happ
  have hf6 := happ.below (fresh_alloc w _) HO.out (Nat.le_refl _) (by simp)
  obtain ⟨u, c, rfl, _⟩ := hown'.rd
  have HP := hidd hown'
  have HF := hidd hf6
  clear happ hown' hf6 HO HC
  go_wp2
  go_ret
  exact ⟨_, _, rfl, HP.out, HF.out⟩
theorem min2' {a b m : Int} (h : m = min a b) (ats : Array TypeId) (ty : TypeId) (w : World) : (Builtin.min_ ats ty #[.int .i64 a, .int .i64 b]).run Try.prog w = .ok (.int .i64 m) w := by
  have : (Builtin.min_ ats ty #[.int .i64 a, .int .i64 b]).run Try.prog w = .ok (.int .i64 (if b < a then b else a)) w := by simp [Builtin.min_, Builtin.min2]
  rw [this]
  congr 2
  rw [h]
  split <;> omega
set_option maxRecDepth 20000 in
set_option maxHeartbeats 1600000 in
theorem first_any {w : World} {b n cap : Nat} {P T D : Nat → Int} (h : RdA w (some ⟨b, 0, none⟩) 3 n cap (nds P T D)) (h0 : 0 < n) (hn : n * 24 ≤ 140737488351232) (most : Int) (hm : 1 ≤ most) {m : Nat} (hmm : (m : Int) = min most (n : Int)) :
    Calls Try.prog 36 #[.slice (some ⟨b, 0, none⟩) n cap, .int .i64 most] w fun e w' => ∃ u c, e = .returned (.slice u m c) ∧ Own w' w.heap.size 61 3 (.slice u m c) m (nds P T D) ∧ Below w.heap.size w w' := by
  have hle := h.le
  have HCL := hidd (cloneN_any (h.firsts (m := m) (by omega)) (by omega) (by omega))
  have hmin := min2' (a := most) (b := (n : Int)) (m := (m : Int)) hmm
  have e1 : (m : Int) ≤ (cap : Int) := by omega
  clear h hmm
  go_enter Try.func36, Try.ntmps36
  go_wp2_with (go_at_call 59; with_reducible refine HCL.out.mono ?_; rintro e w2 ⟨u, c, rfl, ho, hb⟩; have HO := hidd ho; have HB := hidd hb; clear ho hb)
  go_ret
  exact ⟨_, _, rfl, HO.out, HB.out⟩
end Go.Proofs.Ytjjnfpeeipainaa.Cl
namespace Go.Proofs.Ytjjnfpeeipainaa.Cl
open Go.RowKit
/-! Clean. -/
theorem rowIs_rd3 {w : World} {b n : Nat} {t : TypeId} {f : Nat → Value} (h : w.rowIs b t (n * 3) f) (hn : n ≤ maxLen) : RdA w (some ⟨b, 0, none⟩) 3 n n f :=
  ⟨Nat.le_refl _, hn, fun _ => ⟨b, 0, rfl, fun j hj => by rw [Nat.zero_add]; exact h.cell hj⟩⟩
set_option maxRecDepth 20000 in
set_option maxHeartbeats 1600000 in
theorem clean_bad {w : World} {ao : Option Addr} {R cap : Nat} (root vocab : Int) (hR : 96 < R) :
    Calls Try.prog 18 #[.int .i64 root, .slice ao R cap, .int .i64 vocab] w fun e w' => e = .returned (.tuple #[.slice none 0 0, .int .i64 140]) ∧ Below w.heap.size w w' := by
  have d1 : decide ((96 : Int) < (R : Int)) = true := decide_eq_true (by omega)
  have d2 : decide (96 < R) = true := decide_eq_true hR
  have d3 : (96 : Int) < (R : Int) := by omega
  go_enter Try.func18, Try.ntmps18
  go_wp2
  go_ret2
  exact ⟨rfl, Below.refl _ _⟩
set_option maxRecDepth 20000 in
set_option maxHeartbeats 1600000 in
theorem clean_ok {w : World} {ao : Option Addr} {R cap : Nat} {L : List (Int × Int)} {root vocab : Int} (h : RdA w ao 2 R cap (rwF L)) (hR : R ≤ 96) (hv : fits vocab) {s : Ga} (hs : s = gaS root vocab (fun i => (L.getD i (0, 0)).1) (fun i => (L.getD i (0, 0)).2) R) {m : Nat} (hm : m = min 32 s.n) :
    Calls Try.prog 18 #[.int .i64 root, .slice ao R cap, .int .i64 vocab] w fun e w' => ∃ d : Nat → Nat, (Fr (fun i => i) d 0 s.n ∧ Srt s.D d 0 s.n ∧ d 0 = 0) ∧ ∃ u c, e = .returned (.tuple #[.slice u m c, .int .i64 0]) ∧ Own w' w.heap.size 61 3 (.slice u m c) m (nds (ouP s.P d (mv d s.n)) (fun i => s.T (d i)) (fun i => s.D (d i))) ∧ Below w.heap.size w w' := by
  have d1 : decide ((96 : Int) < (R : Int)) = false := decide_eq_false (by omega)
  have d2 : decide (96 < R) = false := decide_eq_false (by omega)
  have d3 : ¬ ((96 : Int) < (R : Int)) := by omega
  have HOK : Hid (GaOk vocab s R) := by rw [hs]; exact gaS_ok _ _ _ _ R
  have HGA := hidd (gather_any (root := root) (vocab := vocab) h (by omega) hv)
  rw [← hs] at HGA
  obtain ⟨n, HN⟩ : ∃ n, Hid (n = s.n) := ⟨_, rfl⟩
  have hn1 : 1 ≤ n := by rw [HN.out]; exact HOK.out.one
  have hn2 : n ≤ 97 := by have := HOK.out.le; have := HN.out; omega
  rw [← HN.out] at HGA hm ⊢
  have HM := hidd hm
  have HBY : Hid (∀ (w1 : World) (u : Option Addr) (c : Nat), Own w1 w.heap.size 61 3 (.slice u n c) n (nds s.P s.T s.D) → Calls Try.prog 37 #[.slice u n c] w1 fun e w' => ∃ (d : Nat → Nat) (g : Nat), (Fr (fun i => i) d 0 n ∧ Srt s.D d 0 n ∧ d 0 = 0) ∧ e = .returned (.slice (some ⟨g, 0, none⟩) n n) ∧ RdA w' (some ⟨g, 0, none⟩) 3 n n (nds (ouP s.P d (mv d n)) (fun i => s.T (d i)) (fun i => s.D (d i))) ∧ Below w1.heap.size w1 w') := fun w1 u c ho => by
    have hlt := ho.lt
    have hr := own_rda ho
    obtain ⟨b, o, e, _⟩ := hr.node (by omega)
    subst e
    refine (byDepth_any hr hn1 (by omega) (hlt b rfl).2 (fun i i1 i2 => ?_) (fun i i1 i2 => ?_)).mono ?_
    · have := HOK.out.par i i1 (by rw [← HN.out]; exact i2)
      omega
    · exact HOK.out.deep i1 (by rw [← HN.out]; exact i2)
    · rintro e w' ⟨d, k1, k2, k3, g, k4, rfl, k5, k6⟩
      exact ⟨d, g, ⟨k1, k2, k3⟩, rfl, rowIs_rd3 k5 (by unfold maxLen; omega), k6⟩
  have HFI : Hid (∀ (w2 : World) (d : Nat → Nat) (g : Nat), RdA w2 (some ⟨g, 0, none⟩) 3 n n (nds (ouP s.P d (mv d n)) (fun i => s.T (d i)) (fun i => s.D (d i))) → Calls Try.prog 36 #[.slice (some ⟨g, 0, none⟩) n n, .int .i64 32] w2 fun e w' => ∃ u c, e = .returned (.slice u m c) ∧ Own w' w2.heap.size 61 3 (.slice u m c) m (nds (ouP s.P d (mv d n)) (fun i => s.T (d i)) (fun i => s.D (d i))) ∧ Below w2.heap.size w2 w') := fun w2 d g hr => first_any hr (by omega) (by omega) 32 (by omega) (by have := HM.out; omega)
  clear h hv hs hm
  go_enter Try.func18, Try.ntmps18
  go_wp2_with (first
    | (go_at_call 38; with_reducible refine HGA.out.mono ?_; rintro e w1 ⟨u, c, rfl, ho, hb⟩; have HB1 := hidd hb; have HBC := hidd (HBY.out _ _ _ ho); clear ho hb)
    | (go_at_call 37; with_reducible refine HBC.out.mono ?_; rintro e w2 ⟨d, g, hd, rfl, hr, hb⟩; have HD := hidd hd; have HB2 := hidd hb; have HFC := hidd (HFI.out _ _ _ hr); clear hd hb hr)
    | (go_at_call 36; with_reducible refine HFC.out.mono ?_; rintro e w3 ⟨u3, c3, rfl, ho, hb⟩; have HO3 := hidd ho; have HB3 := hidd hb; clear ho hb))
  go_ret2
  exact ⟨d, HD.out, _, _, rfl, HO3.out.weaken (Nat.le_trans HB1.out.size HB2.out.size), fresh_trans (fresh_trans HB1.out HB2.out) HB3.out⟩
end Go.Proofs.Ytjjnfpeeipainaa.Cl
