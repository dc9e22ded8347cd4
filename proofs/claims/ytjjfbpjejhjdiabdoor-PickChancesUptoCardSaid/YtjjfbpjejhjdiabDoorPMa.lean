import Derived.Test.YtjjfbpjejhjdiabDoorHOrd
import Derived.Test.YtjjfbpjejhjdiabDoorFixMono
namespace Go.Proofs.YtjjfbpjejhjdiabDoor
/-! What Chances answers, as lists of pairs of a token and a number. -/
structure Prm where
  temp : Int
  topk : Int
  topp : Int
  pen : Int
  seed : Nat
structure Prm.Ok (p : Prm) : Prop where
  t0 : 0 ≤ p.temp
  t1 : p.temp ≤ 4096
  k0 : 0 ≤ p.topk
  k1 : p.topk ≤ 64
  p0 : 1 ≤ p.topp
  p1 : p.topp ≤ 1000
  n0 : 64 ≤ p.pen
  n1 : p.pen ≤ 1024
def cw (x : Int) : Int := Fix.cl x 16777216
theorem cw_bd (x : Int) : -16777216 ≤ cw x ∧ cw x ≤ 16777216 := Fix.cl_wide x
def penS (c pen : Int) : Int := if 0 < c then Fix.dv (c * 256) pen else Fix.sh (c * pen) 8
theorem sh8 (x : Int) : Fix.sh x 8 = (x / 128 + 1) / 2 := Fix.sh_pos x 8 (by decide)
theorem penS_bd {c pen : Int} (c0 : -16777216 ≤ c) (c1 : c ≤ 16777216) (n0 : 64 ≤ pen) (n1 : pen ≤ 1024) : -67108864 ≤ penS c pen ∧ penS c pen ≤ 67108864 := by
  unfold penS
  split
  · rw [Fix.dv_gt _ _ (by omega)]
    have h1 : 0 ≤ c * 256 / pen := Int.ediv_nonneg (by omega) (by omega)
    have h2 : c * 256 / pen ≤ 67108864 := by
      refine Int.le_of_lt_add_one (Int.ediv_lt_of_lt_mul (by omega) ?_)
      have : 67108865 * 64 ≤ 67108865 * pen := Int.mul_le_mul_of_nonneg_left n0 (by omega)
      show c * 256 < (67108864 + 1) * pen
      omega
    omega
  · have h1 : c * pen ≤ 0 := Int.mul_nonpos_of_nonpos_of_nonneg (by omega) (by omega)
    have h2 : -16777216 * 1024 ≤ c * pen := by
      have a1 : -16777216 * pen ≤ c * pen := Int.mul_le_mul_of_nonneg_right c0 (by omega)
      omega
    rw [sh8]
    omega
theorem penS_256 (c : Int) : penS c 256 = c := by
  unfold penS
  split
  · rw [Fix.dv_gt _ _ (by omega)]; omega
  · rw [sh8]; omega
def seenB (s : Nat → Int) (m i : Nat) : Bool := (List.range m).any fun j => s j == (i : Int)
theorem seenB_iff {s : Nat → Int} {m i : Nat} : seenB s m i = true ↔ ∃ j, j < m ∧ s j = (i : Int) := by
  unfold seenB
  simp only [List.any_eq_true, List.mem_range, beq_iff_eq]
def scF (pen : Int) (f : Nat → Int) (S : Nat → Bool) (i : Nat) : Int := if S i then penS (cw (f i)) pen else cw (f i)
theorem scF_bd {pen : Int} (n0 : 64 ≤ pen) (n1 : pen ≤ 1024) (f : Nat → Int) (S : Nat → Bool) (i : Nat) : -67108864 ≤ scF pen f S i ∧ scF pen f S i ≤ 67108864 := by
  unfold scF
  have := cw_bd (f i)
  split
  · exact penS_bd this.1 this.2 n0 n1
  · omega
theorem scF_256 (f : Nat → Int) (S : Nat → Bool) (i : Nat) : scF 256 f S i = cw (f i) := by
  unfold scF
  split
  · exact penS_256 _
  · rfl
def mayB (l : Nat) (b : Nat → Bool) (i : Nat) : Bool := l == 0 || (decide (i < l) && b i)
def canL (g : Nat → Int) (n : Nat) (M : Nat → Bool) : List (Int × Int) := (ordL g n).filter fun x => M x.1.toNat
def topL (k : Int) (A : List (Int × Int)) : List (Int × Int) := if k = 0 then A else A.take k.toNat
def wt (temp b s : Int) : Int := Fix.ex (Fix.dv ((s - b) * 16384) temp)
theorem wt_bd (temp b s : Int) : 0 ≤ wt temp b s ∧ wt temp b s ≤ 65536 := Fix.ex_rng _
theorem wt_self (temp b : Int) : wt temp b b = 65536 := by
  unfold wt
  have : Fix.dv ((b - b) * 16384) temp = 0 := by
    unfold Fix.dv
    rw [Int.sub_self, Int.zero_mul]
    simp
  rw [this, Fix.ex_zero]
theorem wt_mono {temp b s t : Int} (h0 : 0 < temp) (h : s ≤ t) : wt temp b s ≤ wt temp b t := by
  unfold wt
  refine Fix.ex_mono _ _ ?_
  rw [Fix.dv_gt _ _ h0, Fix.dv_gt _ _ h0]
  exact Int.ediv_le_ediv h0 (by omega)
theorem wt_shift (temp b s c : Int) : wt temp (b + c) (s + c) = wt temp b s := by
  unfold wt
  rw [show s + c - (b + c) = s - b by omega]
def weL (temp : Int) (A : List (Int × Int)) : List (Int × Int) := A.map fun x => (x.1, wt temp (A.headD (0, 0)).2 x.2)
theorem weL_len (temp : Int) (A : List (Int × Int)) : (weL temp A).length = A.length := by simp [weL]
/-- the sum of the first weights -/
def pre : List (Int × Int) → Nat → Int
  | [], _ => 0
  | _ :: _, 0 => 0
  | x :: L, k + 1 => x.2 + pre L k
theorem pre_zero (L : List (Int × Int)) : pre L 0 = 0 := by cases L <;> rfl
theorem pre_succ : ∀ (L : List (Int × Int)) (k : Nat), k < L.length → pre L (k + 1) = pre L k + (L.getD k (0, 0)).2
  | [], k, h => absurd h (by simp)
  | x :: L, 0, _ => by simp [pre, pre_zero]
  | x :: L, k + 1, h => by
    have := pre_succ L k (by simpa using h)
    simp only [pre, List.getD_cons_succ]
    omega
theorem pre_step {L : List (Int × Int)} (hw : ∀ x ∈ L, 0 ≤ x.2 ∧ x.2 ≤ 65536) {k : Nat} (h : k < L.length) : pre L k ≤ pre L (k + 1) ∧ pre L (k + 1) ≤ pre L k + 65536 := by
  rw [pre_succ L k h]
  have hm : L.getD k (0, 0) ∈ L := by
    rw [List.getD_eq_getElem?_getD, List.getElem?_eq_getElem h]
    exact List.getElem_mem h
  have := hw _ hm
  omega
theorem pre_bd {L : List (Int × Int)} (hw : ∀ x ∈ L, 0 ≤ x.2 ∧ x.2 ≤ 65536) : ∀ {k : Nat}, k ≤ L.length → 0 ≤ pre L k ∧ pre L k ≤ 65536 * (k : Int)
  | 0, _ => by rw [pre_zero]; simp
  | k + 1, h => by
    have h1 := pre_bd hw (k := k) (by omega)
    have h2 := pre_step hw (k := k) (by omega)
    omega
theorem pre_mono {L : List (Int × Int)} (hw : ∀ x ∈ L, 0 ≤ x.2 ∧ x.2 ≤ 65536) {j : Nat} : ∀ {k : Nat}, j ≤ k → k ≤ L.length → pre L j ≤ pre L k
  | 0, h, _ => by rw [show j = 0 by omega]; exact Int.le_refl _
  | k + 1, h, hk => by
    by_cases e : j = k + 1
    · rw [e]; exact Int.le_refl _
    · have h1 := pre_mono hw (j := j) (k := k) (by omega) (by omega)
      have h2 := pre_step hw (k := k) (by omega)
      omega
theorem pre_take : ∀ (L : List (Int × Int)) (m k : Nat), k ≤ m → pre (L.take m) k = pre L k
  | [], m, k, _ => by simp [pre]
  | x :: L, 0, k, h => by rw [show k = 0 by omega, pre_zero, pre_zero]
  | x :: L, m + 1, 0, _ => by rw [pre_zero, pre_zero]
  | x :: L, m + 1, k + 1, h => by
    simp only [List.take_succ_cons, pre]
    rw [pre_take L m k (by omega)]
/-- the fewest first ones that reach the goal -/
structure IsCut (goal : Int) (L : List (Int × Int)) (m : Nat) : Prop where
  le : m ≤ L.length
  lt : ∀ k, k < m → pre L k * 1000 < goal
  ge : goal ≤ pre L m * 1000
theorem IsCut.uniq {goal : Int} {L : List (Int × Int)} {m k : Nat} (h : IsCut goal L m) (h' : IsCut goal L k) : m = k := by
  rcases Nat.lt_trichotomy m k with q | q | q
  · have := h'.lt m q; have := h.ge; omega
  · exact q
  · have := h.lt k q; have := h'.ge; omega
theorem least {P : Nat → Prop} : ∀ m, P m → ∃ k, k ≤ m ∧ P k ∧ ∀ j, j < k → ¬ P j := fun m => by
  induction m using Nat.strongRecOn with
  | ind m ih =>
    intro h
    by_cases q : ∃ j, j < m ∧ P j
    · obtain ⟨j, hj, hp⟩ := q
      obtain ⟨k, h1, h2, h3⟩ := ih j hj hp
      exact ⟨k, by omega, h2, h3⟩
    · exact ⟨m, Nat.le_refl _, h, fun j hj hp => q ⟨j, hj, hp⟩⟩
def goalOf (tp : Int) (L : List (Int × Int)) : Int := tp * pre L L.length
theorem goal_le {tp : Int} {L : List (Int × Int)} (hw : ∀ x ∈ L, 0 ≤ x.2 ∧ x.2 ≤ 65536) (t1 : tp ≤ 1000) : goalOf tp L ≤ pre L L.length * 1000 := by
  unfold goalOf
  rw [Int.mul_comm]
  exact Int.mul_le_mul_of_nonneg_left t1 (pre_bd hw (Nat.le_refl _)).1
theorem cut_ex {tp : Int} {L : List (Int × Int)} (hw : ∀ x ∈ L, 0 ≤ x.2 ∧ x.2 ≤ 65536) (t1 : tp ≤ 1000) : ∃ m, IsCut (goalOf tp L) L m := by
  obtain ⟨k, h1, h2, h3⟩ := least (P := fun k => goalOf tp L ≤ pre L k * 1000) L.length (goal_le hw t1)
  exact ⟨k, h1, fun j hj => by have := h3 j hj; omega, h2⟩
open Classical in
noncomputable def cutN (goal : Int) (L : List (Int × Int)) : Nat := if h : ∃ m, IsCut goal L m then h.choose else 0
theorem cutN_eq {goal : Int} {L : List (Int × Int)} {m : Nat} (h : IsCut goal L m) : cutN goal L = m := by
  unfold cutN
  have hx : ∃ m, IsCut goal L m := ⟨m, h⟩
  rw [dif_pos hx]
  exact hx.choose_spec.uniq h
theorem cutN_is {goal : Int} {L : List (Int × Int)} (h : ∃ m, IsCut goal L m) : IsCut goal L (cutN goal L) := by
  obtain ⟨m, hm⟩ := h
  rw [cutN_eq hm]
  exact hm
theorem weL_bd (temp : Int) (A : List (Int × Int)) : ∀ x ∈ weL temp A, 0 ≤ x.2 ∧ x.2 ≤ 65536 := fun x hx => by
  unfold weL at hx
  obtain ⟨y, _, rfl⟩ := List.mem_map.1 hx
  exact wt_bd _ _ _
/-- the chances: of scores g over n tokens, of which M tells which may come -/
noncomputable def chL (p : Prm) (g : Nat → Int) (n : Nat) (M : Nat → Bool) : List (Int × Int) :=
  if p.temp = 0 then ((canL g n M).take 1).map fun x => (x.1, 65536)
  else (weL p.temp (topL p.topk (canL g n M))).take (cutN (goalOf p.topp (weL p.temp (topL p.topk (canL g n M)))) (weL p.temp (topL p.topk (canL g n M))))
/-- what is chosen, of the number that was drawn -/
def pkL : List (Int × Int) → Int → Int
  | [], _ => 0
  | x :: L, u => if u < x.2 then x.1 else pkL L (u - x.2)
theorem pkL_drop {L : List (Int × Int)} {k : Nat} (h : k < L.length) (u : Int) : pkL (L.drop k) u = if u < (L.getD k (0, 0)).2 then (L.getD k (0, 0)).1 else pkL (L.drop (k + 1)) (u - (L.getD k (0, 0)).2) := by
  rw [List.drop_eq_getElem_cons h, List.getD_eq_getElem?_getD, List.getElem?_eq_getElem h]
  rfl
end Go.Proofs.YtjjfbpjejhjdiabDoor
