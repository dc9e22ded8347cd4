import Derived.Test.YtaalinlggjimcaaPD
import Derived.Maps.Keyed
import Derived.DeepKeys5
import Derived.Deep.MidRow
namespace Go.Proofs.Ytaalinlggjimcaa
open Go.RowKit
open Go.Maps (Keyed)
/-! Keys (a number and a piece), and the map that leads from them to lists. -/
def ints (p : List Int) : List Value := p.map (fun x => Value.int .i64 x)
def keyL (n : Int) (p : List Int) : List Value := .int .i64 n :: ints p
def keyV (n : Int) (p : List Int) : Value := .agg (keyL n p).toArray
def fits (x : Int) : Prop := -9223372036854775808 ≤ x ∧ x ≤ 9223372036854775807
def Pc (p : List Int) : Prop := p.length = 16 ∧ ∀ x ∈ p, fits x
theorem ints_len (p : List Int) : (ints p).length = p.length := by simp [ints]
theorem ints_inj {p q : List Int} (h : ints p = ints q) : p = q := by
  unfold ints at h
  exact (List.map_inj_right (fun a b e => by cases e; rfl)).1 h
theorem keyV_inj {n m : Int} {p q : List Int} (h : keyV n p = keyV m q) : n = m ∧ p = q := by
  unfold keyV keyL at h
  have h1 := congrArg Array.toList (Value.agg.inj h)
  simp only [List.cons.injEq, Value.int.injEq, true_and] at h1
  exact ⟨h1.1, ints_inj h1.2⟩
theorem tsize : Try.prog.types.size = 136 := by kernel_rfl
theorem keyed : Keyed Try.prog 75 := Keyed.of_law (deep_law_gate (P := Try.prog) (by kernel_rfl) (by rw [tsize]; decide) (by rw [tsize]; decide) (by kernel_rfl) (by kernel_rfl))
theorem len16 {p : List Int} (h : p.length = 16) : ∃ a b c d e f g i j k l m n o q r, p = [a, b, c, d, e, f, g, i, j, k, l, m, n, o, q, r] := by
  match p, h with
  | [a, b, c, d, e, f, g, i, j, k, l, m, n, o, q, r], _ => exact ⟨_, _, _, _, _, _, _, _, _, _, _, _, _, _, _, _, rfl⟩
theorem wf_fits {x : Int} (h : fits x) : (Lit.int .i64 x).wf = true := by
  unfold fits at h
  simp only [Lit.wf, Bool.and_eq_true, decide_eq_true_eq]
  have h1 : IntKind.min .i64 = -9223372036854775808 := by decide
  have h2 : IntKind.max .i64 = 9223372036854775807 := by decide
  omega
theorem lits_int (d : Nat) {x : Int} (h : fits x) : Try.prog.keyLits (d + 1) 3 [.int .i64 x] = some [.int .i64 x] := by
  unfold Program.keyLits
  rw [Try.underlying3]
  simp [wf_fits h]
theorem mapM_some {α β : Type} (f : α → Option β) (g : α → β) : ∀ (l : List α), (∀ x ∈ l, f x = some (g x)) → l.mapM f = some (l.map g)
  | [], _ => by simp
  | x :: r, h => by
    rw [List.mapM_cons, h x (by simp), mapM_some f g r (fun y hy => h y (by simp [hy]))]
    rfl
theorem lits_piece (d : Nat) {p : List Int} (hp : Pc p) : ∃ l, Try.prog.keyLits (d + 1 + 1) 73 (ints p) = some l := by
  have c2 : Try.prog.cellsOf 73 = 16 := by kernel_rfl
  have c3 : Try.prog.cellsOf 3 = 1 := by kernel_rfl
  unfold Program.keyLits
  rw [Try.underlying73]
  simp only [c2, c3, ints_len, hp.1, if_true]
  rw [mapM_some _ (fun i => [.int .i64 (p.getD i 0)])]
  · exact ⟨_, rfl⟩
  · intro i hi
    have hi := List.mem_range.1 hi
    have e : (List.take 1 (List.drop (i * 1) (ints p))) = [.int .i64 (p.getD i 0)] := by
      rw [Nat.mul_one, List.drop_eq_getElem_cons (by rw [ints_len, hp.1]; exact hi)]
      simp [ints, List.getElem?_eq_getElem (show i < p.length by rw [hp.1]; exact hi)]
    rw [e]
    refine lits_int d (hp.2 _ ?_)
    rw [List.getD_eq_getElem?_getD, List.getElem?_eq_getElem (show i < p.length by rw [hp.1]; exact hi)]
    simp
theorem key_ok {n : Int} {p : List Int} (hn : fits n) (hp : Pc p) : ∃ l, keyOf Try.prog 75 (keyV n p) = some l := by
  have c1 : Try.prog.cellsOf 75 = 17 := by kernel_rfl
  have c2 : Try.prog.cellsOf 73 = 16 := by kernel_rfl
  have c3 : Try.prog.cellsOf 3 = 1 := by kernel_rfl
  have k1 : Try.prog.keyType 75 = true := by kernel_rfl
  obtain ⟨l, hl⟩ := lits_piece 134 hp
  have hlen : (keyL n p).length = 17 := by simp [keyL, ints_len, hp.1]
  have hk : Try.prog.keyLits (136 + 1) 75 (keyL n p) = some ([.int .i64 n] ++ l) := by
    unfold Program.keyLits
    rw [Try.underlying75]
    have hl2 : Try.prog.keyLits 136 73 (List.take 16 (ints p)) = some l := by
      rw [List.take_of_length_le (by rw [ints_len, hp.1]; decide)]; exact hl
    simp [c1, c2, c3, hlen]
    simp [keyL, lits_int 135 hn, hl2]
  refine ⟨.string (keyBytes ([.int .i64 n] ++ l)), ?_⟩
  · unfold keyOf
    rw [Try.underlying75]
    have hf : (keyV n p).formed Try.prog 75 = true := by
      unfold keyV Value.formed
      rw [Try.underlying75]
      simp [c1, hlen]
    have hc : (keyV n p).cells.toList = keyL n p := by simp [keyV, Value.cells]
    simp only [k1, hf, tsize, hc, hk]
    rfl
end Go.Proofs.Ytaalinlggjimcaa
