import Derived.Test.YtdceahebkohbjabScV
namespace Go.Proofs.Ytdceahebkohbjab
open Go.RowKit
/-! Make, in one word; the seats but for where their blocks lie. -/
structure PO (n : Nat) (S L : Nat → Se) : Prop where
  perm : ((List.range n).map fun i => er (L i)).Perm ((List.range n).map fun i => er (S i))
  up : ∀ i j, i < j → j < n → (L i).id < (L j).id
theorem PO.of_mem {n : Nat} {S L : Nat → Se} (h : PO n S L) {q : Nat} (hq : q < n) : ∃ i, i < n ∧ er (L q) = er (S i) := by
  have : er (L q) ∈ (List.range n).map fun i => er (S i) := h.perm.mem_iff.1 (List.mem_map.2 ⟨q, List.mem_range.2 hq, rfl⟩)
  obtain ⟨i, hi, e⟩ := List.mem_map.1 this
  exact ⟨i, List.mem_range.1 hi, e.symm⟩
theorem PO.to_mem {n : Nat} {S L : Nat → Se} (h : PO n S L) {i : Nat} (hi : i < n) : ∃ q, q < n ∧ er (L q) = er (S i) := by
  have : er (S i) ∈ (List.range n).map fun i => er (L i) := h.perm.mem_iff.2 (List.mem_map.2 ⟨i, List.mem_range.2 hi, rfl⟩)
  obtain ⟨q, hq, e⟩ := List.mem_map.1 this
  exact ⟨q, List.mem_range.1 hq, e⟩
theorem okS_er {c : Me} {s t : Se} (h : er s = er t) : okS c s ↔ okS c t := by
  unfold okS
  rw [er_kn h, er_ca h, er_hn h, er_H h]
theorem okA_er {c : Me} {n : Nat} {S M : Nat → Se} (h : ∀ i, i < n → er (S i) = er (M i)) : okA c n S ↔ okA c n M := by
  unfold okA
  constructor
  · rintro ⟨h1, h2, h3⟩
    exact ⟨h1, fun i hi => (okS_er (h i hi)).1 (h2 i hi), fun i j hij hj => by rw [← er_id (h i (by omega)), ← er_id (h j hj)]; exact h3 i j hij hj⟩
  · rintro ⟨h1, h2, h3⟩
    exact ⟨h1, fun i hi => (okS_er (h i hi)).2 (h2 i hi), fun i j hij hj => by rw [er_id (h i (by omega)), er_id (h j hj)]; exact h3 i j hij hj⟩
/-- the plan of seats that may be -/
def PlD (w' : World) (base : Nat) (c : Me) (n : Nat) (S : Nat → Se) (pk : Int → Bool) (vO vZ : Value) : Prop :=
  ∃ L, PO n S L ∧ okD c n L ∧ Own w' base 3 1 vO (mkN c L n pk n).O.length (idF L (mkN c L n pk n).O) ∧ Own w' base 45 3 vZ (mkN c L n pk n).Z.length (slF L (mkN c L n pk n).Z)
structure MkR (w w' : World) (c : Me) (n : Nat) (S : Nat → Se) (pk : Int → Bool) (vO vZ : Value) (no nz : Nat) (x : Int) : Prop where
  low : Below w.heap.size w w'
  sO : ∃ u k, vO = .slice u no k
  sZ : ∃ u k, vZ = .slice u nz k
  ok : okM c 1 → okA c n S → x = 0 ∧ PlD w' w.heap.size c n S pk vO vZ
  bad : ¬ (okM c 1 ∧ okA c n S) → ¬ x = 0 ∧ no = 0 ∧ nz = 0
theorem make_any {w : World} (c : Me) {ao po : Option Addr} {n cap m cp : Nat} {S S1 : Nat → Se} {P : Nat → Int} (hS : SeA w ao n cap S1) (h0 : ao = none → cap = 0) (hE : ∀ i, i < n → er (S1 i) = er (S i)) (hP : RdA w po 1 m cp (fun i => .int .i64 (P i))) :
    Calls Try.prog 9 #[mV c, .slice ao n cap, .slice po m cp] w fun e w' => ∃ vO vZ no nz x, e = .returned (.tuple #[.agg #[vO, vZ], .int .i64 x]) ∧ MkR w w' c n S (hasI P m) vO vZ no nz x := by
  have hA := okA_er (c := c) hE
  by_cases hc : okM c 1
  · by_cases hn : n ≤ 16
    · refine (make_ok c hc hS h0 hn hP).mono (fun e w' q => ?_)
      obtain ⟨q1, q2, q3⟩ := q
      by_cases ha : okA c n S
      · obtain ⟨L, vO, vZ, ho, hd, he, r1, r2⟩ := q2 (hA.2 ha)
        obtain ⟨uo, ko, e1, _⟩ := r1.rd
        obtain ⟨uz, kz, e2, _⟩ := r2.rd
        have hpo : PO n S L := ⟨by
          have h1 := ho.perm.map er
          rw [List.map_map, List.map_map] at h1
          have h2 : (List.range n).map (er ∘ S1) = (List.range n).map fun i => er (S i) := List.map_congr_left (fun i hi => hE i (List.mem_range.1 hi))
          rw [h2] at h1
          exact h1, okD_strict ho hd⟩
        exact ⟨vO, vZ, _, _, 0, he, q1, ⟨uo, ko, e1⟩, ⟨uz, kz, e2⟩, fun _ _ => ⟨rfl, L, hpo, hd, r1, r2⟩, fun h => absurd ⟨hc, ha⟩ h⟩
      · exact ⟨_, _, 0, 0, 1, q3 (fun h => ha (hA.1 h)), q1, ⟨_, _, rfl⟩, ⟨_, _, rfl⟩, fun _ h => absurd h ha, fun _ => ⟨by omega, rfl, rfl⟩⟩
    · refine (make_many w c hc (by omega) (by have := hS.rd.le; have := hS.rd.top; unfold maxLen at this; omega) _).mono (fun e w' q => ?_)
      exact ⟨_, _, 0, 0, 1, q.1, q.2, ⟨_, _, rfl⟩, ⟨_, _, rfl⟩, fun _ h => absurd h.1 hn, fun _ => ⟨by omega, rfl, rfl⟩⟩
  · refine (make_serve w c hc _ _).mono (fun e w' q => ?_)
    exact ⟨_, _, 0, 0, 200, q.1, q.2, ⟨_, _, rfl⟩, ⟨_, _, rfl⟩, fun h _ => absurd h hc, fun _ => ⟨by omega, rfl, rfl⟩⟩
theorem all2 (a b : Value) (h1 : a.oneCell' = true) (h2 : b.oneCell' = true) : (#[a, b] : Array Value).all (·.oneCell') = true := by simp [h1, h2]
theorem ret_plan3 {fn : Func} {p u v : Tmp} (h : fn.results = #[.cell p 28, .tmp u, .tmp v]) (tmps : Array Value) (w : World) (g : Nat) (a b x y : Value) (hp : tmps.getD p undef = .pointer (some ⟨g, 0, none⟩)) (hr : w.rowIs g 28 2 (two a b)) (hx : tmps.getD u undef = x) (hy : tmps.getD v undef = y) :
    (results fn tmps).run Try.prog w = .ok (.tuple #[.agg #[a, b], x, y]) w := by
  have hrg : w.rangeAt g 0 [a, b] := fun j z hj => by
    match j, hj with
    | 0, hj => simp at hj; subst hj; exact hr.cell (i := 0) (by decide)
    | 1, hj => simp at hj; subst hj; exact hr.cell (i := 1) (by decide)
  have hp' : tmps[p]?.getD undef = .pointer (some ⟨g, 0, none⟩) := by simpa using hp
  have hx' : tmps[u]?.getD undef = x := by simpa using hx
  have hy' : tmps[v]?.getD undef = y := by simpa using hy
  simp [results, h, hp', hx', hy', asAddr, run_loadVar_mid w g 0 28 [a, b] _ hrg Try.underlying28 rfl size_plan, Result.andThen]
end Go.Proofs.Ytdceahebkohbjab
