import Derived.Test.YtbpldnlafilbbaaNgI
namespace Go.Proofs.Ytbpldnlafilbbaa
open Go.RowKit Go.Shelf
/-! addChain. -/
theorem infoR : (Try.prog.info? 31).map (fun i => (i.zero, i.size, i.bytes)) = some (some (.agg #[.int .i64 0, .int .i64 0]), 2, 16) := by kernel_rfl
/-- raw nodes: parents and tokens -/
def rwF (R : List (Int × Int)) : Nat → Value := fun j => if j % 2 = 0 then .int .i64 (R.getD (j / 2) (0, 0)).1 else .int .i64 (R.getD (j / 2) (0, 0)).2
/-- the chain of the tokens t 0 .. t (m - 1) behind R -/
def chR (R : List (Int × Int)) (t : Nat → Int) : Nat → List (Int × Int)
  | 0 => R
  | m + 1 => chR R t m ++ [(if m = 0 then -1 else ((R.length + m : Nat) : Int) - 1, t m)]
theorem chR_len (R : List (Int × Int)) (t : Nat → Int) : ∀ m, (chR R t m).length = R.length + m
  | 0 => rfl
  | m + 1 => by
    unfold chR
    rw [List.length_append, chR_len R t m]
    simp only [List.length_cons, List.length_nil]
    omega
theorem rwF_app (R : List (Int × Int)) (x : Int × Int) (j : Nat) (h : j < R.length * 2) : rwF R j = rwF (R ++ [x]) j := by
  unfold rwF
  rw [List.getD_eq_getElem?_getD, List.getD_eq_getElem?_getD, List.getElem?_append_left (by omega)]
theorem rwF_fst (R : List (Int × Int)) (x : Int × Int) : rwF (R ++ [x]) (R.length * 2) = .int .i64 x.1 := by
  unfold rwF
  rw [if_pos (by omega), show R.length * 2 / 2 = R.length by omega]
  simp
theorem rwF_snd (R : List (Int × Int)) (x : Int × Int) : rwF (R ++ [x]) (R.length * 2 + 1) = .int .i64 x.2 := by
  unfold rwF
  rw [if_neg (by omega), show (R.length * 2 + 1) / 2 = R.length by omega]
  simp
theorem rwF_one (R : List (Int × Int)) (j : Nat) : (rwF R j).oneCell' = true := by
  unfold rwF
  split <;> rfl
set_option maxRecDepth 20000 in
set_option maxHeartbeats 1600000 in
theorem chain_any {w : World} {B : Nat} {v : Value} {R : List (Int × Int)} (hR : Own w B 31 2 v R.length (rwF R)) (hB : B ≤ w.heap.size) {ao : Option Addr} {m c : Nat} {t : Nat → Int} (ht : RdA w ao 1 m c (fun i => .int .i64 (t i))) (hoff : ∀ b o, ao = some ⟨b, o, none⟩ → b < B) (hn : R.length + m ≤ 96) :
    Calls Try.prog 28 #[v, .slice ao m c] w fun e w' => ∃ v', e = .returned v' ∧ Own w' B 31 2 v' (R.length + m) (rwF (chR R t m)) ∧ Below B w w' ∧ KeepsOthers w w' := by
  obtain ⟨u0, c0, rfl, hrd0⟩ := hR.rd
  have H0 : Hid (∃ v', (Value.slice u0 R.length c0) = v' ∧ Own w B 31 2 v' (R.length + 0) (rwF (chR R t 0)) ∧ Below B w w) := ⟨_, rfl, hR, Below.refl _ _⟩
  have HT := hidd ht
  have HOF := hidd hoff
  clear hR hrd0 ht hoff
  go_enter Try.func28, Try.ntmps28
  go_wp2
  go_loopw [0, 5, 10] (fun v p i wr => ∃ k : Nat, k ≤ m ∧ i = .int .i64 k ∧ p = .int .i64 (if k = 0 then -1 else ((R.length + k : Nat) : Int) - 1) ∧ ∃ u cc, v = .slice u (R.length + k) cc ∧ Hid (Own wr B 31 2 (.slice u (R.length + k) cc) (R.length + k) (rwF (chR R t k))) ∧ Hid (Below B w wr) ∧ Hid (KeepsOthers w wr)) (fun _ _ i _ => m - (intOf i).toNat)
  case atStart =>
    obtain ⟨v', e1, h1, h2⟩ := H0.out
    subst e1
    exact ⟨0, by omega, rfl, rfl, u0, c0, rfl, h1, h2, KeepsOthers.refl w⟩
  case round =>
    clear H0
    obtain ⟨k, hk, rfl, rfl, u, cc, rfl, HO, HB, HKO⟩ := hrel
    obtain ⟨pp, hpp⟩ : ∃ pp : Int, pp = (if k = 0 then -1 else ((R.length + k : Nat) : Int) - 1) := ⟨_, rfl⟩
    have HPP := hidd hpp
    rw [← hpp]
    by_cases hlt : k < m
    · obtain ⟨b, o, hao, hcell⟩ := HT.out.one (by omega)
      subst hao
      have i1 : (k : Int) < (m : Int) := by omega
      have hbB : b < B := HOF.out b o rfl
      have hmc := HT.out.le
      have hct := HT.out.top
      unfold maxLen at hct
      have ck : wr.cell? ⟨b, o + k, none⟩ = some (.int .i64 (t k)) := (HB.out.cell (p := ⟨b, o + k, none⟩) hbB).trans (hcell k hlt)
      have hsz := HB.out.size
      have HX : Hid (∀ j, j < 1 * 2 → (wr.alloc (.cells #[.int .i64 pp, .int .i64 (t k)] 31)).cell? ⟨wr.heap.size, j, none⟩ = some (rwF (chR R t (k + 1)) ((R.length + k) * 2 + j))) := fun j hj => by
        have e1 : chR R t (k + 1) = chR R t k ++ [(pp, t k)] := by rw [hpp]; rfl
        rw [e1, ← chR_len R t k]
        rcases j with _ | _ | j
        · rw [Nat.add_zero, rwF_fst]; simp
        · rw [rwF_snd]; simp
        · omega
      have HO3 : Hid (Own (wr.alloc (.cells #[.int .i64 pp, .int .i64 (t k)] 31)) B 31 2 (.slice u (R.length + k) cc) (R.length + k) (rwF (chR R t (k + 1)))) := (HO.out.kept (fresh_alloc _ _)).congr (fun j hj => rwF_app _ _ j (by rw [chR_len]; exact hj))
      have HONE : Hid (∀ j, j < 1 * 2 → (rwF (chR R t (k + 1)) ((R.length + k) * 2 + j)).oneCell' = true) := fun j _ => rwF_one _ _
      clear hcell hpp
      go_wp2_with (at_builtin; refine wpList_app _ rfl _ _ 28 rfl B 31 (.agg #[.int .i64 0, .int .i64 0]) 2 16 Try.underlying28 infoR rfl (by decide) _ (R.length + k) (rwF (chR R t (k + 1))) rfl HO3.out _ 1 1 rfl HX.out HONE.out (by decide) (by unfold maxLen; omega) (by omega) (by simp; omega) ?_)
      intro v' w6 ho ha
      obtain ⟨u', c', rfl, _⟩ := ho.rd
      have HO6 := hidd ho
      have HB6 := hidd (ha.below (HB.out.alloc (by omega) (.cells #[.int .i64 pp, .int .i64 (t k)] 31)) HO3.out (Nat.le_refl _) (by simp; omega))
      have HK6 := hidd ((HKO.out.trans (KeepsOthers.alloc wr _)).trans (keeps_app ha.grown (fun r e => HO3.out.cells_ e)))
      clear ho ha ck HX HO3 HONE
      go_wp2
      go_roundw
      case rel =>
        refine ⟨k + 1, by omega, by go_num, ?_, u', c', rfl, HO6, HB6, HK6⟩
        rw [if_neg (by omega)]
        go_num
      case measure => simp [intOf]; omega
    · obtain rfl : k = m := by omega
      clear hpp
      go_wp2
      go_ret
      exact ⟨_, rfl, HO.out, HB.out, HKO.out⟩
end Go.Proofs.Ytbpldnlafilbbaa
