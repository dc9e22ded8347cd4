import Derived.Test.YtbpldnlafilbbabNgSn
namespace Go.Proofs.Ytbpldnlafilbbab
open Go.RowKit
/-! One index of the law, on either side: nil, or a text. -/
structure Tz where
  most : Nat
  n : Nat
  tx : Nat → Int
def lenZ : Option Tz → Nat
  | none => 0
  | some z => z.n
noncomputable def plZ : Option Tz → List Nat
  | none => []
  | some z => plL z.tx z.most z.n
noncomputable def prZ (wy dp : Int) : Option Tz → List (Int × Int)
  | none => []
  | some z => prO z.tx z.most z.n wy dp
def apZ (m : Nat) (t : Nat → Int) : Option Tz → Option Tz
  | none => none
  | some z => some ⟨z.most, z.n + m, apT z.tx z.n t⟩
def cutZ (k : Int) : Option Tz → Option Tz
  | none => none
  | some z => some ⟨z.most, min z.n k.toNat, z.tx⟩
def newZ (k : Int) : Option Tz := if 1 ≤ k ∧ k ≤ 4 then some ⟨k.toNat, 0, fun _ => 0⟩ else none
def newE (k : Int) : Int := if 1 ≤ k ∧ k ≤ 4 then 0 else 1
theorem apZ_len (m : Nat) (t : Nat → Int) (z : Option Tz) : lenZ (apZ m t z) ≤ lenZ z + m := by
  cases z <;> simp [apZ, lenZ]
theorem cutZ_len (k : Int) (z : Option Tz) : lenZ (cutZ k z) ≤ lenZ z := by
  cases z <;> simp [cutZ, lenZ]
  omega
theorem newZ_len (k : Int) : lenZ (newZ k) = 0 := by
  unfold newZ
  split <;> rfl
theorem plZ_len (z : Option Tz) : (plZ z).length ≤ lenZ z := by
  cases z
  · exact Nat.le_refl _
  · exact plL_len _ _ _
/-- the program's index, S its blocks -/
structure Xs (w : World) (px : Option Addr) (S : Nat → Prop) (z : Option Tz) : Prop where
  low : ∀ b, S b → b < w.heap.size
  ex : (z = none ∧ px = none) ∨ ∃ zz X A, z = some zz ∧ px = some ⟨X, 0, none⟩ ∧ Idx w X S zz.most zz.n zz.tx A
/-- the reference's -/
structure Ys (w : World) (py : Option Addr) (S : Nat → Prop) (z : Option Tz) : Prop where
  low : ∀ b, S b → b < w.heap.size
  ex : (z = none ∧ py = none) ∨ ∃ zz Y, z = some zz ∧ py = some ⟨Y, 0, none⟩ ∧ Ri w Y S zz.most zz.n zz.tx ∧ 1 ≤ zz.most ∧ zz.most ≤ 4
theorem Xs.chg {w w' : World} {px : Option Addr} {S : Nat → Prop} {z : Option Tz} (h : Xs w px S z) {T : Nat → Prop} (c : Chg w w' T) (hT : ∀ b, S b → ¬ T b) : Xs w' px S z := by
  refine ⟨fun b hb => Nat.lt_of_lt_of_le (h.low b hb) c.size, ?_⟩
  rcases h.ex with h | ⟨zz, X, A, h1, h2, h3⟩
  · exact .inl h
  · exact .inr ⟨zz, X, A, h1, h2, h3.chg c hT⟩
theorem Ys.chg {w w' : World} {px : Option Addr} {S : Nat → Prop} {z : Option Tz} (h : Ys w px S z) {T : Nat → Prop} (c : Chg w w' T) (hT : ∀ b, S b → ¬ T b) : Ys w' px S z := by
  refine ⟨fun b hb => Nat.lt_of_lt_of_le (h.low b hb) c.size, ?_⟩
  rcases h.ex with h | ⟨zz, X, h1, h2, h3, h4⟩
  · exact .inl h
  · exact .inr ⟨zz, X, h1, h2, h3.chg c hT, h4⟩
theorem Xs.fresh {w w' : World} {px : Option Addr} {S : Nat → Prop} {z : Option Tz} (h : Xs w px S z) (f : Below w.heap.size w w') : Xs w' px S z := h.chg (Chg.of_below (fun _ => False) f) (fun _ _ t => t)
theorem Ys.fresh {w w' : World} {px : Option Addr} {S : Nat → Prop} {z : Option Tz} (h : Ys w px S z) (f : Below w.heap.size w w') : Ys w' px S z := h.chg (Chg.of_below (fun _ => False) f) (fun _ _ t => t)
theorem Xs.nil (w : World) : Xs w none (fun _ => False) none := ⟨fun _ h => h.elim, .inl ⟨rfl, rfl⟩⟩
theorem Ys.nil (w : World) : Ys w none (fun _ => False) none := ⟨fun _ h => h.elim, .inl ⟨rfl, rfl⟩⟩
theorem x_new (k : Int) (w : World) : Calls Try.prog 6 #[.int .i64 k] w fun e w' => ∃ px S, e = .returned (.tuple #[.pointer px, .int .i64 (newE k)]) ∧ Xs w' px S (newZ k) ∧ Below w.heap.size w w' ∧ (∀ b, S b → w.heap.size ≤ b) ∧ (px = none ↔ newZ k = none) := by
  unfold newE newZ
  by_cases h : 1 ≤ k ∧ k ≤ 4
  · rw [if_pos h, if_pos h]
    have e : k = ((k.toNat : Nat) : Int) := by omega
    have hk : 1 ≤ k.toNat ∧ k.toNat ≤ 4 := by omega
    have := new_ok k.toNat hk w (fun _ => 0) (fun _ => 0)
    rw [← e] at this
    refine this.mono ?_
    rintro e w' ⟨rfl, h1, h2⟩
    exact ⟨_, _, rfl, ⟨h1.low, .inr ⟨_, _, _, rfl, rfl, h1⟩⟩, h2, fun b hb => hb.1, by simp⟩
  · rw [if_neg h, if_neg h]
    refine (new_bad k (by omega) w).mono ?_
    rintro e w' ⟨rfl, rfl⟩
    exact ⟨_, _, rfl, Xs.nil _, Below.refl _ _, fun b hb => hb.elim, by simp⟩
theorem y_new (k : Int) (w : World) : Calls Try.prog 7 #[.int .i64 k] w fun e w' => ∃ px S, e = .returned (.tuple #[.pointer px, .int .i64 (newE k)]) ∧ Ys w' px S (newZ k) ∧ Below w.heap.size w w' ∧ (∀ b, S b → w.heap.size ≤ b) ∧ (px = none ↔ newZ k = none) := by
  unfold newE newZ
  by_cases h : 1 ≤ k ∧ k ≤ 4
  · rw [if_pos h, if_pos h]
    have e : k = ((k.toNat : Nat) : Int) := by omega
    have hk : 1 ≤ k.toNat ∧ k.toNat ≤ 4 := by omega
    have := rnew_ok k.toNat hk w (fun _ => 0)
    rw [← e] at this
    refine this.mono ?_
    rintro e w' ⟨rfl, h1, h2⟩
    exact ⟨_, _, rfl, ⟨h1.low, .inr ⟨_, _, rfl, rfl, h1, hk⟩⟩, h2, fun b hb => Nat.le_of_eq hb.symm, by simp⟩
  · rw [if_neg h, if_neg h]
    refine (rnew_bad k (by omega) w).mono ?_
    rintro e w' ⟨rfl, rfl⟩
    exact ⟨_, _, rfl, Ys.nil _, Below.refl _ _, fun b hb => hb.elim, by simp⟩
theorem x_append {w : World} {px : Option Addr} {S : Nat → Prop} {z : Option Tz} (h : Xs w px S z) {ao : Option Addr} {m c : Nat} {t : Nat → Int} (ht : RdA w ao 1 m c (fun i => .int .i64 (t i))) (hS : ∀ b o, ao = some ⟨b, o, none⟩ → 0 < m → ¬ S b) (hf : ∀ i, i < m → fits (t i)) (hn : (lenZ z + m) * 8 ≤ 140737488351232) :
    Calls Try.prog 8 #[.pointer px, .slice ao m c] w fun e w' => e = .returned (.tuple #[]) ∧ Chg w w' S ∧ ∃ S', Xs w' px S' (apZ m t z) ∧ ∀ b, S' b → S b ∨ w.heap.size ≤ b := by
  rcases h.ex with ⟨rfl, rfl⟩ | ⟨zz, X, A, rfl, rfl, h3⟩
  · refine (append_nil w ao m c).mono ?_
    rintro e w' ⟨rfl, rfl⟩
    exact ⟨rfl, Chg.refl _ _, S, ⟨h.low, .inl ⟨rfl, rfl⟩⟩, fun b hb => .inl hb⟩
  · refine (append_any h3 ht hS hf hn).mono ?_
    rintro e w' ⟨rfl, S', A', g1, g2, g3, g4, g5⟩
    exact ⟨rfl, g2, S', ⟨g1.low, .inr ⟨_, _, _, rfl, rfl, g1⟩⟩, g4⟩
theorem y_append {w : World} {px : Option Addr} {S : Nat → Prop} {z : Option Tz} (h : Ys w px S z) {ao : Option Addr} {m c : Nat} {t : Nat → Int} (ht : RdA w ao 1 m c (fun i => .int .i64 (t i))) (hS : ∀ b o, ao = some ⟨b, o, none⟩ → 0 < m → ¬ S b) (hn : (lenZ z + m) * 8 ≤ 140737488351232) :
    Calls Try.prog 9 #[.pointer px, .slice ao m c] w fun e w' => e = .returned (.tuple #[]) ∧ Chg w w' S ∧ ∃ S', Ys w' px S' (apZ m t z) ∧ ∀ b, S' b → S b ∨ w.heap.size ≤ b := by
  rcases h.ex with ⟨rfl, rfl⟩ | ⟨zz, X, rfl, rfl, h3, h4⟩
  · refine (rappend_nil w ao m c).mono ?_
    rintro e w' ⟨rfl, rfl⟩
    exact ⟨rfl, Chg.refl _ _, S, ⟨h.low, .inl ⟨rfl, rfl⟩⟩, fun b hb => .inl hb⟩
  · refine (rappend_any h3 ht hS hn).mono ?_
    rintro e w' ⟨rfl, S', g1, g2, g3, g4⟩
    exact ⟨rfl, g2, S', ⟨g1.low, .inr ⟨_, _, rfl, rfl, g1, h4⟩⟩, g4⟩
theorem x_cut {w : World} {px : Option Addr} {S : Nat → Prop} {z : Option Tz} (h : Xs w px S z) (k : Int) :
    Calls Try.prog 18 #[.pointer px, .int .i64 k] w fun e w' => e = .returned (.tuple #[]) ∧ Chg w w' S ∧ ∃ S', Xs w' px S' (cutZ k z) ∧ ∀ b, S' b → S b ∨ w.heap.size ≤ b := by
  rcases h.ex with ⟨rfl, rfl⟩ | ⟨zz, X, A, rfl, rfl, h3⟩
  · refine (cut_nil w k).mono ?_
    rintro e w' ⟨rfl, rfl⟩
    exact ⟨rfl, Chg.refl _ _, S, ⟨h.low, .inl ⟨rfl, rfl⟩⟩, fun b hb => .inl hb⟩
  · refine (cut_any h3 k).mono ?_
    rintro e w' ⟨rfl, g1, g2⟩
    exact ⟨rfl, g2, S, ⟨g1.low, .inr ⟨_, _, _, rfl, rfl, g1⟩⟩, fun b hb => .inl hb⟩
theorem y_cut {w : World} {px : Option Addr} {S : Nat → Prop} {z : Option Tz} (h : Ys w px S z) (k : Int) (hn : lenZ z * 8 ≤ 140737488351232) :
    Calls Try.prog 12 #[.pointer px, .int .i64 k] w fun e w' => e = .returned (.tuple #[]) ∧ Chg w w' S ∧ ∃ S', Ys w' px S' (cutZ k z) ∧ ∀ b, S' b → S b ∨ w.heap.size ≤ b := by
  rcases h.ex with ⟨rfl, rfl⟩ | ⟨zz, X, rfl, rfl, h3, h4⟩
  · refine (rcut_nil w k).mono ?_
    rintro e w' ⟨rfl, rfl⟩
    exact ⟨rfl, Chg.refl _ _, S, ⟨h.low, .inl ⟨rfl, rfl⟩⟩, fun b hb => .inl hb⟩
  · refine (rcut_any h3 k hn).mono ?_
    rintro e w' ⟨rfl, S', g1, g2, g3, g4⟩
    exact ⟨rfl, g2, S', ⟨g1.low, .inr ⟨_, _, rfl, rfl, g1, h4⟩⟩, g4⟩
theorem x_len {w : World} {px : Option Addr} {S : Nat → Prop} {z : Option Tz} (h : Xs w px S z) : Calls Try.prog 19 #[.pointer px] w fun e w' => e = .returned (.int .i64 (lenZ z : Nat)) ∧ w' = w := by
  rcases h.ex with ⟨rfl, rfl⟩ | ⟨zz, X, A, rfl, rfl, h3⟩
  · exact len_nil w
  · exact idx_len h3
theorem y_len {w : World} {px : Option Addr} {S : Nat → Prop} {z : Option Tz} (h : Ys w px S z) : Calls Try.prog 20 #[.pointer px] w fun e w' => e = .returned (.int .i64 (lenZ z : Nat)) ∧ w' = w := by
  rcases h.ex with ⟨rfl, rfl⟩ | ⟨zz, X, rfl, rfl, h3, h4⟩
  · exact rlen_nil w
  · exact rlen_any h3
theorem pkQ_nil (k : Int) : pkQ k [] = [] := by
  unfold pkQ
  split <;> simp
theorem x_places {w : World} {px : Option Addr} {S : Nat → Prop} {z : Option Tz} (h : Xs w px S z) (hn : lenZ z * 8 ≤ 140737488351232) (k : Int) :
    Calls Try.prog 21 #[.pointer px, .int .i64 k] w fun e w' => ∃ u c, e = .returned (.slice u (pkQ k (plZ z)).length c) ∧ Own w' w.heap.size 3 1 (.slice u (pkQ k (plZ z)).length c) (pkQ k (plZ z)).length (qF (pkQ k (plZ z))) ∧ Below w.heap.size w w' := by
  rcases h.ex with ⟨rfl, rfl⟩ | ⟨zz, X, A, rfl, rfl, h3⟩
  · refine (places_nil w k).mono ?_
    rintro e w' ⟨rfl, hb⟩
    have e9 : pkQ k (plZ none) = [] := pkQ_nil k
    rw [e9]
    exact ⟨none, 0, rfl, own_nil _ _ _ _ _, hb⟩
  · exact places_any h3 hn k
theorem y_places {w : World} {px : Option Addr} {S : Nat → Prop} {z : Option Tz} (h : Ys w px S z) (hn : lenZ z * 8 ≤ 140737488351232) :
    Calls Try.prog 11 #[.pointer px] w fun e w' => ∃ u c, e = .returned (.slice u (plZ z).length c) ∧ Own w' w.heap.size 3 1 (.slice u (plZ z).length c) (plZ z).length (qF (plZ z)) ∧ Below w.heap.size w w' := by
  rcases h.ex with ⟨rfl, rfl⟩ | ⟨zz, X, rfl, rfl, h3, h4⟩
  · refine (rplaces_nil w).mono ?_
    rintro e w' ⟨rfl, rfl⟩
    exact ⟨none, 0, rfl, own_nil _ _ _ _ _, Below.refl _ _⟩
  · exact rplaces_any h3 h4 hn
theorem x_propose {w : World} {px : Option Addr} {S : Nat → Prop} {z : Option Tz} (h : Xs w px S z) (hn : lenZ z * 8 ≤ 140737488351232) (wy dp : Int) (hw : fits wy) (hd : fits dp) :
    Calls Try.prog 23 #[.pointer px, .int .i64 wy, .int .i64 dp] w fun e w' => ∃ u c, e = .returned (.slice u (prZ wy dp z).length c) ∧ RdA w' u 2 (prZ wy dp z).length c (rwF (prZ wy dp z)) ∧ Below w.heap.size w w' := by
  rcases h.ex with ⟨rfl, rfl⟩ | ⟨zz, X, A, rfl, rfl, h3⟩
  · refine (propose_nil w wy dp).mono ?_
    rintro e w' ⟨rfl, hb⟩
    exact ⟨none, 0, rfl, own_rda (own_nil w' 0 54 2 (rwF [])), hb⟩
  · refine (propose_any h3 hn wy dp hw hd).mono ?_
    rintro e w' ⟨v, rfl, ho, hb⟩
    obtain ⟨u, c, rfl, hr⟩ := ho.rd
    exact ⟨u, c, rfl, own_rda ho, hb⟩
theorem y_propose {w : World} {px : Option Addr} {S : Nat → Prop} {z : Option Tz} (h : Ys w px S z) (hn : lenZ z * 8 ≤ 140737488351232) (wy dp : Int) :
    Calls Try.prog 24 #[.pointer px, .int .i64 wy, .int .i64 dp] w fun e w' => ∃ u c, e = .returned (.slice u (prZ wy dp z).length c) ∧ RdA w' u 2 (prZ wy dp z).length c (rwF (prZ wy dp z)) ∧ Below w.heap.size w w' := by
  rcases h.ex with ⟨rfl, rfl⟩ | ⟨zz, X, rfl, rfl, h3, h4⟩
  · refine (rpropose_nil w wy dp).mono ?_
    rintro e w' ⟨rfl, hb⟩
    exact ⟨none, 0, rfl, own_rda (own_nil w' 0 54 2 (rwF [])), hb⟩
  · refine (rpropose_any h3 h4 hn wy dp).mono ?_
    rintro e w' ⟨u, c, rfl, ho, hb⟩
    exact ⟨u, c, rfl, own_rda ho, hb⟩
set_option maxRecDepth 20000 in
set_option maxHeartbeats 1600000 in
theorem first_any {w : World} {ao : Option Addr} {c : Nat} {L : List Nat} (k : Int) (h : RdA w ao 1 L.length c (qF L)) :
    ∃ c', RdA w ao 1 (pkQ k L).length c' (qF (pkQ k L)) ∧ ∀ w0 : World, Calls Try.prog 14 #[.slice ao L.length c, .int .i64 k] w0 fun e w' => e = .returned (.slice ao (pkQ k L).length c') ∧ w' = w0 := by
  have hle := h.le
  by_cases h0 : 0 < k
  · have d0 : decide (0 < k) = true := decide_eq_true h0
    by_cases h2 : k < L.length
    · have d1 : decide (k < (L.length : Int)) = true := decide_eq_true h2
      obtain ⟨m, rfl⟩ : ∃ m : Nat, k = m := ⟨k.toNat, by omega⟩
      have e0 : pkQ m L = L.take m := by
        unfold pkQ
        rw [if_pos (by omega)]
        rfl
      have e1 : (pkQ m L).length = m := by rw [e0, List.length_take]; omega
      have HR : Hid (RdA w ao 1 m c (qF (pkQ m L))) := (h.lessR (m := m) (by omega)).congr (fun j hj => by
        rw [e0]
        unfold qF
        rw [List.getD_eq_getElem?_getD, List.getD_eq_getElem?_getD, List.getElem?_take_of_lt (by omega)])
      rw [e1]
      obtain ⟨b, o, rfl, _⟩ := h.one (by omega)
      have e2 : (m : Int) ≤ (c : Int) := by omega
      have e2' : m ≤ c := by omega
      have e3 : (0 : Int) ≤ (m : Int) := by omega
      refine ⟨c, HR.out, fun w0 => ?_⟩
      clear e0 e1 h HR
      generalize L.length = n at *
      go_enter Try.func14, Try.ntmps14
      go_wp2
      go_ret
      exact ⟨rfl, rfl⟩
    · have d1 : decide (k < (L.length : Int)) = false := decide_eq_false h2
      have e0 : pkQ k L = L := by
        unfold pkQ
        split
        · exact List.take_of_length_le (by omega)
        · rfl
      rw [e0]
      refine ⟨c, h, fun w0 => ?_⟩
      clear e0 h
      generalize L.length = n at *
      go_enter Try.func14, Try.ntmps14
      go_wp2
      go_ret
      exact ⟨rfl, rfl⟩
  · have d0 : decide (0 < k) = false := decide_eq_false h0
    rw [pkQ_all (.inl (by omega))]
    refine ⟨c, h, fun w0 => ?_⟩
    clear h
    generalize L.length = n at *
    go_enter Try.func14, Try.ntmps14
    go_wp2
    go_ret
    exact ⟨rfl, rfl⟩
end Go.Proofs.Ytbpldnlafilbbab
