import Derived.Test.YtppcgfdogacmkaaPI
namespace Go.Proofs.Ytppcgfdogacmkaa
open Go.RowKit
/-! A pool with its tables, as the laws make them. -/
def updA {α : Type} (f : Nat → α) (i : Nat) (y : α) : Nat → α := fun j => if j = i then y else f j
theorem updA_at {α : Type} (f : Nat → α) (i : Nat) (y : α) : updA f i y i = y := if_pos rfl
theorem updA_ne {α : Type} (f : Nat → α) {i j : Nat} (y : α) (h : j ≠ i) : updA f i y j = f j := if_neg h
/-- what stays -/
structure Fx where
  w0 : World
  g : Nat
  cb : Nat
  nb : Nat
  B : Nat
  S : Nat
  base : Nat
  lb : Nat
  lc : Nat
  tn : Nat
  LF : Nat → Value
  tb : Nat → Nat
/-- what changes -/
structure Dy where
  cnt : Nat → Nat
  num : Nat → Int
  v : Nat → Value
  m : Nat → Nat
  bl : Nat → Nat → Nat
def Dy.zero : Dy := ⟨fun _ => 0, fun _ => 0, fun _ => .slice none 0 0, fun _ => 0, fun _ _ => 0⟩
structure St (x : Fx) (w : World) (s : Dy) : Prop where
  P : PoolAt w x.g x.cb x.nb 2 3 x.B x.S s.cnt s.num
  T : ∀ i, i < x.tn → TblAt w x.base (x.tb i) x.g x.S (s.v i) (s.m i) (s.bl i)
  L : w.rowIs x.lb 49 x.lc x.LF
  LF : ∀ i, i < x.tn → x.LF i = .pointer (some ⟨x.tb i, 0, none⟩)
  ln : x.tn ≤ x.lc
  rise : ∀ i j, i < j → j < x.tn → x.tb i < x.tb j
  off : ∀ i j, i < x.tn → j < x.tn → i ≠ j → Off (s.v i) (s.v j)
  low : Below x.w0.heap.size x.w0 w
  bs : x.base ≤ w.heap.size
  lt : x.g < x.base ∧ x.cb < x.base ∧ x.nb < x.base ∧ x.lb < x.base
  new : x.w0.heap.size ≤ x.g ∧ x.w0.heap.size ≤ x.cb ∧ x.w0.heap.size ≤ x.nb ∧ x.w0.heap.size ≤ x.base
  newt : ∀ i, i < x.tn → x.w0.heap.size ≤ x.tb i
theorem St.cell {x : Fx} {w : World} {s : Dy} (h : St x w s) {i : Nat} (hi : i < x.tn) : w.cell? ⟨x.lb, i, none⟩ = some (.pointer (some ⟨x.tb i, 0, none⟩)) := by
  rw [h.L.cell (i := i) (Nat.lt_of_lt_of_le hi h.ln), h.LF i hi]
theorem St.tne {x : Fx} {w : World} {s : Dy} (h : St x w s) {i j : Nat} (hi : i < x.tn) (hj : j < x.tn) (e : i ≠ j) : x.tb i ≠ x.tb j := by
  rcases Nat.lt_or_gt_of_ne e with k | k
  · exact Nat.ne_of_lt (h.rise i j k hj)
  · exact (Nat.ne_of_lt (h.rise j i k hi)).symm
theorem St.geo {x : Fx} {w : World} {s : Dy} (h : St x w s) : Geo 2 3 x.B x.S 12 (x.S * 12) (x.B * x.S * 12) := by
  obtain ⟨q, n, T, G⟩ := h.P.geo
  have e1 := G.eq
  have e2 := G.en
  have e3 := G.eT
  simp only [Nat.reduceMul] at e1
  subst e1
  subst e2
  subst e3
  exact G
/-- calls that change the pool's counts, numbers and one table -/
theorem St.step {x : Fx} {w w' : World} {s : Dy} (h : St x w s) {i : Nat} (hi : i < x.tn) {cnt : Nat → Nat} {num : Nat → Int} {v : Value} {m : Nat} {bl : Nat → Nat} (hP : PoolAt w' x.g x.cb x.nb 2 3 x.B x.S cnt num) (hT : TblAt w' x.base (x.tb i) x.g x.S v m bl) (c : Chg w w' (fun b => b = x.tb i ∨ b = x.cb ∨ b = x.nb ∨ (s.v i).ownBlock = some b)) (hv : ∀ k, v.ownBlock = some k → (s.v i).ownBlock = some k ∨ w.heap.size ≤ k) :
    St x w' ⟨cnt, num, updA s.v i v, updN s.m i m, updA s.bl i bl⟩ := by
  refine ⟨hP, fun j hj => ?_, ?_, h.LF, h.ln, h.rise, fun j k hj hk e => ?_, ?_, Nat.le_trans h.bs c.size, h.lt, h.new, h.newt⟩
  · by_cases e : j = i
    · subst e
      simp only [updA_at, updN_at]
      exact hT
    · simp only [updA_ne _ _ e, updN_ne _ _ e]
      refine (h.T j hj).chg c ?_ ?_
      · have k1 := rowIs_apart (h.T j hj).row h.P.cnts (by decide)
        have k2 := rowIs_apart (h.T j hj).row h.P.nums (by decide)
        rintro (h1 | h1 | h1 | h1)
        · exact h.tne hj hi e h1
        · exact k1 h1
        · exact k2 h1
        · have := ((h.T i hi).own.lt _ h1).1
          have := (h.T j hj).lt
          omega
      · rintro b hb (h1 | h1 | h1 | h1)
        · have := ((h.T j hj).own.lt _ hb).1
          have := (h.T i hi).lt
          omega
        · have := ((h.T j hj).own.lt _ hb).1
          have := h.lt.2.1
          omega
        · have := ((h.T j hj).own.lt _ hb).1
          have := h.lt.2.2.1
          omega
        · exact h.off j i hj hi e b hb h1
  · refine c.row h.L ?_
    have k1 := rowIs_apart h.L h.P.cnts (by decide)
    have k2 := rowIs_apart h.L h.P.nums (by decide)
    have k3 := rowIs_apart h.L (h.T i hi).row (by decide)
    rintro (h1 | h1 | h1 | h1)
    · exact k3 h1
    · exact k1 h1
    · exact k2 h1
    · have := ((h.T i hi).own.lt _ h1).1
      have := h.lt.2.2.2
      omega
  · show Off (updA s.v i v j) (updA s.v i v k)
    by_cases e1 : j = i
    · subst e1
      rw [updA_at, updA_ne _ _ (fun e2 => e e2.symm)]
      intro b hb hb2
      rcases hv b hb with h1 | h1
      · exact h.off j k hj hk e b h1 hb2
      · have := ((h.T k hk).own.lt _ hb2).2
        omega
    · rw [updA_ne _ _ e1]
      by_cases e2 : k = i
      · subst e2
        rw [updA_at]
        intro b hb hb2
        rcases hv b hb2 with h1 | h1
        · exact h.off j k hj hk e b hb h1
        · have := ((h.T j hj).own.lt _ hb).2
          omega
      · rw [updA_ne _ _ e2]
        exact h.off j k hj hk e
  · refine c.below h.low h.low.size ?_
    rintro b (h1 | h1 | h1 | h1)
    · rw [h1]; exact h.newt i hi
    · rw [h1]; exact h.new.2.1
    · rw [h1]; exact h.new.2.2.1
    · have := ((h.T i hi).own.lt _ h1).1
      have := h.new.2.2.2
      omega
/-- calls that change the pool's counts and numbers alone -/
theorem St.pool {x : Fx} {w w' : World} {s : Dy} (h : St x w s) {cnt : Nat → Nat} {num : Nat → Int} (hP : PoolAt w' x.g x.cb x.nb 2 3 x.B x.S cnt num) (c : Chg w w' (fun b => b = x.cb ∨ b = x.nb)) : St x w' { s with cnt := cnt, num := num } := by
  refine ⟨hP, fun j hj => ?_, ?_, h.LF, h.ln, h.rise, h.off, ?_, Nat.le_trans h.bs c.size, h.lt, h.new, h.newt⟩
  · refine (h.T j hj).chg c ?_ ?_
    · have k1 := rowIs_apart (h.T j hj).row h.P.cnts (by decide)
      have k2 := rowIs_apart (h.T j hj).row h.P.nums (by decide)
      rintro (h1 | h1)
      · exact k1 h1
      · exact k2 h1
    · rintro b hb (h1 | h1)
      · have := ((h.T j hj).own.lt _ hb).1
        have := h.lt.2.1
        omega
      · have := ((h.T j hj).own.lt _ hb).1
        have := h.lt.2.2.1
        omega
  · refine c.row h.L ?_
    have k1 := rowIs_apart h.L h.P.cnts (by decide)
    have k2 := rowIs_apart h.L h.P.nums (by decide)
    rintro (h1 | h1)
    · exact k1 h1
    · exact k2 h1
  · refine c.below h.low h.low.size ?_
    rintro b (h1 | h1)
    · rw [h1]; exact h.new.2.1
    · rw [h1]; exact h.new.2.2.1
theorem St.fresh {x : Fx} {w w' : World} {s : Dy} (h : St x w s) (f : Below w.heap.size w w') : St x w' s := h.pool (h.P.fresh f) (Chg.of_below _ f)
theorem MadeAt.st {w w1 : World} {g cb nb B S tn : Nat} {v : Value} {tb : Nat → Nat} (h : MadeAt w w1 g cb nb B S v tn tb) (hn : 0 < tn) : ∃ x : Fx, x.w0 = w ∧ x.g = g ∧ x.B = B ∧ x.S = S ∧ x.tn = tn ∧ v = .slice (some ⟨x.lb, 0, none⟩) tn x.lc ∧ St x w1 Dy.zero := by
  obtain ⟨lb, lc, F, rfl, h1, h2, h3, hr, hF⟩ := Own.row1 h.own hn
  refine ⟨⟨w, g, cb, nb, B, S, w1.heap.size, lb, lc, tn, F, tb⟩, rfl, rfl, rfl, rfl, rfl, rfl, ⟨h.pool, fun i hi => ⟨h.tab i hi, own_nil _ _ _ _ _, (h.tab i hi).lt⟩, hr, hF, h1, h.rise, fun i j _ _ _ => off_nil _, h.low, Nat.le_refl _, ⟨h.pool.row.lt, h.pool.cnts.lt, h.pool.nums.lt, hr.lt⟩, ⟨h.new.1, h.new.2.1, h.new.2.2, h.low.size⟩, h.newt⟩⟩
theorem made_st (w : World) (a b : Int) (tn : Nat) (h0 : 0 < tn) (h8 : tn ≤ 8) :
    Calls Try.prog 10 #[.int .i64 a, .int .i64 b, .int .i64 tn] w fun e w' => ∃ x : Fx, e = .returned (.tuple #[.pointer (some ⟨x.g, 0, none⟩), .slice (some ⟨x.lb, 0, none⟩) tn x.lc, .int .i64 x.B, .int .i64 x.S]) ∧ x.w0 = w ∧ x.tn = tn ∧ (2 ≤ x.B ∧ x.B ≤ 17) ∧ (1 ≤ x.S ∧ x.S ≤ 6) ∧ St x w' Dy.zero := by
  refine (made_any w a b tn h8).mono ?_
  rintro e w' ⟨g, cb, nb, ao, cap, tb, rfl, hM⟩
  obtain ⟨x, h1, h2, h3, h4, h5, h6, h7⟩ := hM.st h0
  have hB := md_lt a (n := 16) (by decide)
  have hS := md_lt b (n := 6) (by decide)
  exact ⟨x, by rw [h6, h2, h3, h4], h1, h5, by omega, by omega, h7⟩
/-! the calls -/
theorem St.take {x : Fx} {w : World} {s : Dy} (h : St x w s) (hf : 0 < freeN s.cnt x.B) :
    Calls Try.prog 11 #[.pointer (some ⟨x.g, 0, none⟩)] w fun e w' => e = .returned (.tuple #[.int .i64 (lowF s.cnt x.B : Nat), .int .i64 0]) ∧ St x w' { s with cnt := updN s.cnt (lowF s.cnt x.B) 1, num := zeroed s.num (lowF s.cnt x.B * (x.S * 12)) (x.S * 12) } := by
  refine (take_low h.P h.geo hf).mono ?_
  rintro e w' ⟨rfl, h1, h2⟩
  exact ⟨rfl, h.pool h1 h2⟩
def Dy.grown (s : Dy) (x : Fx) (i N : Nat) (v : Value) : Dy := ⟨takesC x.B s.cnt (N - s.m i), takesN x.B (x.S * 12) s.cnt s.num (N - s.m i), updA s.v i v, updN s.m i (s.m i + (N - s.m i)), updA s.bl i (extB (s.bl i) (s.m i) (tk x.B s.cnt))⟩
theorem St.grow {x : Fx} {w : World} {s : Dy} (h : St x w s) {i n : Nat} (hi : i < x.tn) (hm : s.m i ≤ 1000000000) (hn : n ≤ 9223372036854775807) (hf : needs n x.S ≤ freeN s.cnt x.B + s.m i) :
    Calls Try.prog 17 #[.pointer (some ⟨x.tb i, 0, none⟩), .int .i64 n] w fun e w' => e = .returned (.int .i64 0) ∧ ∃ v, St x w' (s.grown x i (needs n x.S) v) := by
  refine (grow_any h.P h.geo (h.T i hi) hm hn hf h.lt.1 h.lt.2.1 h.lt.2.2.1 h.bs).mono ?_
  rintro e w' ⟨rfl, v, h1, h2, h3, h4⟩
  exact ⟨rfl, v, h.step hi h2 h1 h3 h4⟩
def Dy.trimmed (s : Dy) (i N : Nat) (v : Value) : Dy := ⟨drops (s.bl i) (s.m i) (s.m i - N) s.cnt, s.num, updA s.v i v, updN s.m i (min (s.m i) N), updA s.bl i (s.bl i)⟩
theorem St.trim {x : Fx} {w : World} {s : Dy} (h : St x w s) {i n : Nat} (hi : i < x.tn) (hm : s.m i ≤ 1000000000) (hn : n ≤ 9223372036854775807) (hbl : ∀ j, j < s.m i → s.bl i j < x.B) (hc : ∀ b, b < x.B → s.cnt b ≤ 4611686018427387904) :
    Calls Try.prog 22 #[.pointer (some ⟨x.tb i, 0, none⟩), .int .i64 n] w fun e w' => e = .returned (.int .i64 0) ∧ ∃ v, St x w' (s.trimmed i (needs n x.S) v) := by
  refine (trim_any h.P (h.T i hi) (by omega) hn hbl hc h.lt.1 h.lt.2.1 h.lt.2.2.1 (rowIs_apart (h.T i hi).row h.P.cnts (by decide))).mono ?_
  rintro e w' ⟨rfl, v, h1, h2, h3, h4⟩
  exact ⟨rfl, v, h.step hi h3 h1 (h4.imp (fun b _ e => e.elim Or.inl (fun e => Or.inr (Or.inl e)))) (fun k hk => .inl (h2 ▸ hk))⟩
theorem St.blocks {x : Fx} {w : World} {s : Dy} (h : St x w s) {i : Nat} (hi : i < x.tn) (hm : s.m i ≤ 1000000000) :
    Calls Try.prog 18 #[.pointer (some ⟨x.tb i, 0, none⟩)] w fun e w' => ∃ ao cap, e = .returned (.slice ao (s.m i) cap) ∧ Own w' w.heap.size 3 1 (.slice ao (s.m i) cap) (s.m i) (fun j => .int .i64 (s.bl i j)) ∧ Below w.heap.size w w' ∧ St x w' s := by
  refine (blocks_any (h.T i hi) (by omega)).mono ?_
  rintro e w' ⟨ao, cap, rfl, h1, h2⟩
  exact ⟨ao, cap, rfl, h1, h2, h.fresh h2⟩
theorem St.left {x : Fx} {w : World} {s : Dy} (h : St x w s) : Calls Try.prog 19 #[.pointer (some ⟨x.g, 0, none⟩)] w fun e w' => e = .returned (.int .i64 (freeN s.cnt x.B : Nat)) ∧ w' = w := left_any h.P
end Go.Proofs.Ytppcgfdogacmkaa
