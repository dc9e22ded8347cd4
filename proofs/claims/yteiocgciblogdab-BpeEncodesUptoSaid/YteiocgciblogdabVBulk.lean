import Derived.Test.YteiocgciblogdabVOpen
namespace Go.Proofs.Yteiocgciblogdab
open Go.ChangeShapes Go.WideShapes Go.ChangeAt Go.RowKit Go.Deep
/-! How long lists are, by the bulk of what came in. -/
theorem bulk_one {H : Type} (d : DataW H) : 1 ≤ Rows.uptoBulk d := by
  cases d with
  | lit l => cases l <;> simp [Rows.uptoBulk]
  | nil => simp [Rows.uptoBulk]
  | ptr d => simp [Rows.uptoBulk]
  | slice a b => simp [Rows.uptoBulk]
  | agg a => simp [Rows.uptoBulk]
  | iface t d => simp [Rows.uptoBulk]
  | map e => simp [Rows.uptoBulk]
  | held h => simp [Rows.uptoBulk]
theorem bulk_mem {H : Type} {d : DataW H} : ∀ {l : List (DataW H)}, d ∈ l → Rows.uptoBulk d ≤ Rows.uptoBulkAll l
  | [], h => absurd h (by simp)
  | x :: r, h => by
    simp only [Rows.uptoBulkAll]
    rcases List.mem_cons.1 h with e | e
    · subst e; omega
    · have := bulk_mem e; omega
theorem bulk_length {H : Type} : ∀ (l : List (DataW H)), l.length ≤ Rows.uptoBulkAll l
  | [] => by simp [Rows.uptoBulkAll]
  | x :: r => by
    have h1 := bulk_one x
    have h2 := bulk_length r
    simp only [Rows.uptoBulkAll, List.length_cons]; omega
theorem bulk_row {H : Type} {d : DataW H} {n : Nat} (h : (d = .nil ∧ n = 0) ∨ ∃ el rest, d = .slice el rest ∧ el.length = n) : n ≤ Rows.uptoBulk d := by
  rcases h with ⟨_, e⟩ | ⟨el, rest, rfl, e⟩
  · omega
  · have := bulk_length el
    simp only [Rows.uptoBulk]; omega
theorem voc_bulk {H : Type} {d : VD} {l : List (DataW H)} {x0 x1 : DataW H} (hb : Rows.uptoBulkAll l ≤ 1048576) (hm : DataW.agg [x0, x1] ∈ l)
    (h0 : (x0 = .nil ∧ d.nb = 0) ∨ ∃ el rest, x0 = .slice el rest ∧ el.length = d.nb) (h1 : (x1 = .nil ∧ d.np = 0) ∨ ∃ el rest, x1 = .slice el rest ∧ el.length = d.np) : d.nb ≤ 1048576 ∧ d.np ≤ 1048576 := by
  have h := bulk_mem hm
  have b0 := bulk_row h0
  have b1 := bulk_row h1
  simp only [Rows.uptoBulk, Rows.uptoBulkAll] at h
  omega
theorem row_bulk {H : Type} {l : List (DataW H)} {x : DataW H} {n : Nat} (hb : Rows.uptoBulkAll l ≤ 1048576) (hm : x ∈ l) (h : (x = .nil ∧ n = 0) ∨ ∃ el rest, x = .slice el rest ∧ el.length = n) : n ≤ 1048576 :=
  Nat.le_trans (Nat.le_trans (bulk_row h) (bulk_mem hm)) hb
/-- a list of bytes, a list of ints, that came in -/
theorem open_bytes {H : Type} {enc : TypeId × Value → H} {W : World} {base : Nat} {sp : Nat → Bool} {held : Bool} {r : Reach} {b0 : Nat} {v : Value} {x : DataW H} {ps : List MemPlace}
    (hval : Value.okWide Try.prog W r b0 22 v) (h : DataW.Trod enc Try.prog W base sp held 22 v x ps) :
    ∃ (ao : Option Addr) (n cap : Nat) (f : Nat → Int), v = .slice ao n cap ∧ RdA W ao 1 n cap (fun i => .int .u8 (f i)) ∧ (∀ i, i < n → 0 ≤ f i ∧ f i ≤ 255) ∧ ((x = .nil ∧ n = 0) ∨ ∃ el rest, x = .slice el rest ∧ el.length = n) := by
  obtain ⟨a0, l0, c0, rfl⟩ := okWide_slice Try.underlying22 hval
  obtain ⟨fuel, h⟩ := h
  obtain ⟨ao, n, cap, f, e, hr, hw, hs⟩ := open_row Try.underlying22 Try.underlying5 nB h
  exact ⟨ao, n, cap, f, e, hr, fun i hi => wf_u8 (hw i hi), hs⟩
theorem open_ints' {H : Type} {enc : TypeId × Value → H} {W : World} {base : Nat} {sp : Nat → Bool} {held : Bool} {r : Reach} {b0 : Nat} {v : Value} {x : DataW H} {ps : List MemPlace}
    (hval : Value.okWide Try.prog W r b0 28 v) (h : DataW.Trod enc Try.prog W base sp held 28 v x ps) :
    ∃ (ao : Option Addr) (n cap : Nat) (f : Nat → Int), v = .slice ao n cap ∧ RdA W ao 1 n cap (fun i => .int .i64 (f i)) ∧ ((x = .nil ∧ n = 0) ∨ ∃ el rest, x = .slice el rest ∧ el.length = n) := by
  obtain ⟨a0, l0, c0, rfl⟩ := okWide_slice Try.underlying28 hval
  obtain ⟨fuel, h⟩ := h
  obtain ⟨ao, n, cap, f, e, hr, _, hs⟩ := open_row Try.underlying28 Try.underlying3 nI h
  exact ⟨ao, n, cap, f, e, hr, hs⟩
end Go.Proofs.Yteiocgciblogdab
