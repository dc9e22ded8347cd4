import Derived.Test.YtjjfbpjejhjdiabDoorRows
import Derived.WalkKit
import Derived.WalkSpells
import Derived.WalkLawsBesides
import Derived.Handy
import Derived.Lib.Mul64
import Derived.Laws.BitsAllLaws
import Derived.BigQuiet
import Derived.Laws.Rows
/-! The plain mathematics of the mixing and of the bound: over natural numbers. -/
namespace Go.Proofs.YtjjfbpjejhjdiabDoor.Dw
theorem xor_cancel (a b : Nat) : a ^^^ (a ^^^ b) = b := by rw [← Nat.xor_assoc, Nat.xor_self, Nat.zero_xor]
/-- x, bit by bit apart from itself over 2^s. -/
def xs (s x : Nat) : Nat := x ^^^ x / 2 ^ s
/-- .. and the way back, where 3 s is above 63. -/
def sx (s x : Nat) : Nat := x ^^^ x / 2 ^ s ^^^ x / 2 ^ (2 * s)
theorem div_xor (x y s : Nat) : (x ^^^ y) / 2 ^ s = x / 2 ^ s ^^^ y / 2 ^ s := by
  rw [← Nat.shiftRight_eq_div_pow, ← Nat.shiftRight_eq_div_pow, ← Nat.shiftRight_eq_div_pow, Nat.shiftRight_xor_distrib]
theorem div_two (x s t : Nat) : x / 2 ^ s / 2 ^ t = x / 2 ^ (s + t) := by rw [Nat.div_div_eq_div_mul, Nat.pow_add]
theorem sx_xs (s x : Nat) (h : x < 2 ^ (3 * s)) : sx s (xs s x) = x := by
  have e : x / 2 ^ (s + 2 * s) = 0 := by rw [show s + 2 * s = 3 * s by omega]; exact Nat.div_eq_of_lt h
  unfold sx xs
  rw [div_xor, div_xor, div_two, div_two, e, Nat.xor_zero, ← Nat.two_mul, Nat.xor_assoc, Nat.xor_assoc, Nat.xor_assoc, Nat.xor_self, Nat.xor_zero, Nat.xor_self, Nat.xor_zero]
theorem xs_sx (s x : Nat) (h : x < 2 ^ (3 * s)) : xs s (sx s x) = x := by
  have e : x / 2 ^ (2 * s + s) = 0 := by rw [show 2 * s + s = 3 * s by omega]; exact Nat.div_eq_of_lt h
  unfold sx xs
  rw [div_xor, div_xor, div_two, div_two, e, Nat.xor_zero, ← Nat.two_mul]
  generalize x / 2 ^ s = p
  generalize x / 2 ^ (2 * s) = q
  rw [Nat.xor_assoc x p q, Nat.xor_assoc, Nat.xor_self, Nat.xor_zero]
theorem xs_lt {s x : Nat} (h : x < 18446744073709551616) : xs s x < 18446744073709551616 :=
  Nat.xor_lt_two_pow (n := 64) h (Nat.lt_of_le_of_lt (Nat.div_le_self _ _) h)
theorem sx_lt {s x : Nat} (h : x < 18446744073709551616) : sx s x < 18446744073709551616 :=
  Nat.xor_lt_two_pow (n := 64) (Nat.xor_lt_two_pow (n := 64) h (Nat.lt_of_le_of_lt (Nat.div_le_self _ _) h)) (Nat.lt_of_le_of_lt (Nat.div_le_self _ _) h)
/-- Times an odd number, and times its contrary. -/
theorem mul_back {m n x : Nat} (h : m * n % 18446744073709551616 = 1) (hx : x < 18446744073709551616) : x * m % 18446744073709551616 * n % 18446744073709551616 = x := by
  rw [Nat.mod_mul_mod, Nat.mul_assoc, Nat.mul_mod, h, Nat.mul_one, Nat.mod_mod, Nat.mod_eq_of_lt hx]
/-- P2.1. -/
def mix (x : Nat) : Nat :=
  xs 31 (xs 27 (xs 30 x * 13787848793156543929 % 18446744073709551616) * 10723151780598845931 % 18446744073709551616)
/-- .. and the way back. -/
def unmix (y : Nat) : Nat :=
  sx 30 (sx 27 (sx 31 y * 3573116690164977347 % 18446744073709551616) * 10871156337175269513 % 18446744073709551616)
theorem mod_lt64 (x : Nat) : x % 18446744073709551616 < 18446744073709551616 := Nat.mod_lt _ (by omega)
theorem mix_lt {x : Nat} : mix x < 18446744073709551616 := xs_lt (mod_lt64 _)
theorem unmix_lt {x : Nat} : unmix x < 18446744073709551616 := sx_lt (mod_lt64 _)
theorem unmix_mix {x : Nat} (h : x < 18446744073709551616) : unmix (mix x) = x := by
  unfold unmix mix
  rw [sx_xs 31 _ (Nat.lt_of_lt_of_le (mod_lt64 _) (by decide)), mul_back (by decide) (xs_lt (mod_lt64 _)), sx_xs 27 _ (Nat.lt_of_lt_of_le (mod_lt64 _) (by decide)),
    mul_back (by decide) (xs_lt h), sx_xs 30 _ (Nat.lt_of_lt_of_le h (by decide))]
theorem mix_unmix {x : Nat} (h : x < 18446744073709551616) : mix (unmix x) = x := by
  unfold unmix mix
  rw [xs_sx 30 _ (Nat.lt_of_lt_of_le (mod_lt64 _) (by decide)), mul_back (by decide) (sx_lt (mod_lt64 _)), xs_sx 27 _ (Nat.lt_of_lt_of_le (mod_lt64 _) (by decide)),
    mul_back (by decide) (sx_lt h), xs_sx 31 _ (Nat.lt_of_lt_of_le h (by decide))]
theorem mix_inj {x y : Nat} (hx : x < 18446744073709551616) (hy : y < 18446744073709551616) (h : mix x = mix y) : x = y := by
  rw [← unmix_mix hx, ← unmix_mix hy, h]
/-- P2.2, at places that are numbers of 64 bits. -/
def atN (seed pos lane : Nat) : Nat :=
  mix ((mix ((mix ((seed + 11400714819323198485) % 18446744073709551616) + 11400714819323198485 * pos % 18446744073709551616) % 18446744073709551616) + 11400714819323198485 * lane % 18446744073709551616) % 18446744073709551616)
theorem atN_lt {s p l : Nat} : atN s p l < 18446744073709551616 := mix_lt
theorem gmul_inj {x y : Nat} (hx : x < 18446744073709551616) (hy : y < 18446744073709551616) (h : 11400714819323198485 * x % 18446744073709551616 = 11400714819323198485 * y % 18446744073709551616) : x = y := by
  rw [Nat.mul_comm _ x, Nat.mul_comm _ y] at h
  have a := mul_back (m := 11400714819323198485) (n := 17428512612931826493) (by decide) hx
  have b := mul_back (m := 11400714819323198485) (n := 17428512612931826493) (by decide) hy
  rw [← a, ← b, h]
theorem add_inj {a x y : Nat} (hx : x < 18446744073709551616) (hy : y < 18446744073709551616) (h : (a + x) % 18446744073709551616 = (a + y) % 18446744073709551616) : x = y := by omega
theorem at_lane {s p l k : Nat} (hl : l < 18446744073709551616) (hk : k < 18446744073709551616) : atN s p k = atN s p l ↔ l = k := by
  refine ⟨fun h => ?_, fun h => by rw [h]⟩
  exact (gmul_inj hk hl (add_inj (mod_lt64 _) (mod_lt64 _) (mix_inj (mod_lt64 _) (mod_lt64 _) h))).symm
theorem at_pos {s p q l : Nat} (hp : p < 18446744073709551616) (hq : q < 18446744073709551616) : atN s q l = atN s p l ↔ p = q := by
  refine ⟨fun h => ?_, fun h => by rw [h]⟩
  have h1 := mix_inj (mod_lt64 _) (mod_lt64 _) h
  rw [Nat.add_comm, Nat.add_comm (mix ((mix ((s + 11400714819323198485) % 18446744073709551616) + 11400714819323198485 * p % 18446744073709551616) % 18446744073709551616))] at h1
  have h2 := mix_inj (mod_lt64 _) (mod_lt64 _) (add_inj mix_lt mix_lt h1)
  exact (gmul_inj hq hp (add_inj (mod_lt64 _) (mod_lt64 _) h2)).symm
theorem at_seed {s r p l : Nat} (hs : s < 18446744073709551616) (hr : r < 18446744073709551616) : atN r p l = atN s p l ↔ s = r := by
  refine ⟨fun h => ?_, fun h => by rw [h]⟩
  have h1 := mix_inj (mod_lt64 _) (mod_lt64 _) h
  have h2 : ∀ {a x y : Nat}, x < 18446744073709551616 → y < 18446744073709551616 → (x + a) % 18446744073709551616 = (y + a) % 18446744073709551616 → x = y := by intros; omega
  have h3 := mix_inj (mod_lt64 _) (mod_lt64 _) (h2 mix_lt mix_lt h1)
  exact (h2 hr hs (mix_inj (mod_lt64 _) (mod_lt64 _) (h2 mix_lt mix_lt h3))).symm
/-- P2.3. -/
def below (u n : Nat) : Nat := u * n / 18446744073709551616
theorem below_le {u v n m : Nat} (h : u ≤ v) (k : n ≤ m) : below u n ≤ below v m := Nat.div_le_div_right (Nat.mul_le_mul h k)
theorem below_lt {u n : Nat} (hu : u < 18446744073709551616) (hn : 0 < n) : below u n < n := by
  unfold below
  rw [Nat.div_lt_iff_lt_mul (by omega), Nat.mul_comm n]
  exact Nat.mul_lt_mul_of_pos_right hu hn
theorem below_lt64 {u n : Nat} (hu : u < 18446744073709551616) (hn : n < 18446744073709551616) : below u n < 18446744073709551616 := by
  rcases Nat.eq_zero_or_pos n with h | h
  · subst h; simp [below]
  · exact Nat.lt_trans (below_lt hu h) hn
theorem below_zero {u : Nat} : below u 0 = 0 := by simp [below]
theorem zero_below {n : Nat} : below 0 n = 0 := by simp [below]
theorem below_succ {u n : Nat} (hn : n < 18446744073709551616) : below (u + 1) n ≤ below u n + 1 := by
  unfold below
  rw [Nat.add_mul, Nat.one_mul]
  generalize u * n = p
  omega
theorem below_top {n : Nat} (hn : n < 18446744073709551616) (h : 0 < n) : below 18446744073709551615 n = n - 1 := by
  unfold below; omega
theorem below_nest {u n m : Nat} (hm : 0 < m) : below u (n * m) / m = below u n := by
  unfold below
  rw [Nat.div_div_eq_div_mul, ← Nat.mul_assoc, Nat.mul_div_mul_right _ _ hm]
/-- The search from above, after the bits from b on have been settled. -/
structure Leasts (k n b u : Nat) : Prop where
  whole : ∃ q, u = q * 2 ^ b
  room : u + 2 ^ b ≤ 18446744073709551616
  low : u = 0 ∨ below (u - 1) n < k
  high : k ≤ below (u + 2 ^ b - 1) n
theorem Leasts.start {k n : Nat} (hn : n < 18446744073709551616) (h : k < n) : Leasts k n 64 0 :=
  ⟨⟨0, by simp⟩, by decide, .inl rfl, by rw [show 0 + 2 ^ 64 - 1 = 18446744073709551615 by decide, below_top hn (by omega)]; omega⟩
theorem Leasts.up {k n b u : Nat} (l : Leasts k n (b + 1) u) (h : below (u + 2 ^ b - 1) n < k) : Leasts k n b (u + 2 ^ b) := by
  obtain ⟨⟨q, hq⟩, r, _, t⟩ := l
  have p : 2 ^ (b + 1) = 2 * 2 ^ b := by rw [Nat.pow_succ, Nat.mul_comm]
  rw [p] at r t
  refine ⟨⟨2 * q + 1, ?_⟩, by omega, .inr h, ?_⟩
  · rw [hq, p, Nat.add_mul, Nat.one_mul, Nat.mul_comm 2 q, Nat.mul_assoc]
  · rw [show u + 2 ^ b + 2 ^ b - 1 = u + 2 * 2 ^ b - 1 by omega]; exact t
theorem Leasts.down {k n b u : Nat} (l : Leasts k n (b + 1) u) (h : ¬ below (u + 2 ^ b - 1) n < k) : Leasts k n b u := by
  obtain ⟨⟨q, hq⟩, r, s, t⟩ := l
  have p : 2 ^ (b + 1) = 2 * 2 ^ b := by rw [Nat.pow_succ, Nat.mul_comm]
  rw [p] at r
  refine ⟨⟨2 * q, ?_⟩, by omega, s, by omega⟩
  rw [hq, p, Nat.mul_comm 2 q, Nat.mul_assoc]
theorem Leasts.at {k n u : Nat} (hn : n < 18446744073709551616) (l : Leasts k n 0 u) : u < 18446744073709551616 ∧ below u n = k ∧ (k = 0 → u = 0) ∧ (0 < k → 0 < u ∧ below (u - 1) n = k - 1) := by
  obtain ⟨_, r, s, t⟩ := l
  have t' : k ≤ below u n := t
  rcases s with rfl | s
  · rw [zero_below] at t' ⊢
    exact ⟨by omega, by omega, fun _ => rfl, fun h => by omega⟩
  · have hu : 0 < u := by
      rcases Nat.eq_zero_or_pos u with h | h
      · subst h; rw [zero_below] at t'; omega
      · exact h
    have := below_succ (u := u - 1) hn
    rw [show u - 1 + 1 = u by omega] at this
    exact ⟨by omega, by omega, fun h => by omega, fun h => ⟨hu, by omega⟩⟩
end Go.Proofs.YtjjfbpjejhjdiabDoor.Dw
namespace Go.Proofs.YtjjfbpjejhjdiabDoor.Dw
open Go.RowKit
/-! Small facts that all walks want. -/
theorem ret_int {k : IntKind} {a b : Int} (h : a = b) : Ending.returned (.int k a) = .returned (.int k b) := by rw [h]
theorem ret_bool {a : Bool} (h : a = true) : Ending.returned (.bool a) = .returned (.bool true) := by rw [h]
theorem hidd {p : Prop} (h : p) : Hid p := h
/-- What was there is as it was; new blocks may lie behind it. -/
structure Fresh (w w' : World) : Prop where
  below : Below w.heap.size w w'
  grown : Grown w w'
theorem Grown.trans {a b c : World} (h : Grown a b) (k : Grown b c) : Grown a c :=
  ⟨World.keptBut_trans h.1 k.1, fun x => (k.2.1 x).trans (h.2.1 x), Nat.le_trans h.2.2 k.2.2⟩
theorem Fresh.refl (w : World) : Fresh w w := ⟨Below.refl _ _, Grown.refl _⟩
theorem Fresh.trans {a b c : World} (h : Fresh a b) (k : Fresh b c) : Fresh a c :=
  ⟨h.below.trans (k.below.mono h.below.size), Grown.trans h.grown k.grown⟩
theorem Fresh.alloc {a w : World} (h : Fresh a w) (c : Array Value) (t : TypeId) : Fresh a (w.alloc (.cells c t)) :=
  ⟨h.below.alloc h.below.size _, h.grown.alloc c t⟩
theorem Fresh.setCell {a w : World} (h : Fresh a w) {p : Addr} (hp : a.heap.size ≤ p.block) (v : Value) : Fresh a (w.setCell p v) :=
  ⟨h.below.setCell hp v, h.grown.setCell hp v⟩
theorem Fresh.drew {a w : World} (h : Fresh a w) : Fresh a w.drew := ⟨h.below.drew, h.grown.drew⟩
theorem Fresh.row {a b : World} (h : Fresh a b) {k : Nat} {o : Obj} (e : a.heap[k]? = some o) : b.heap[k]? = some o := by
  rw [h.below.block k (Array.getElem?_eq_some_iff.1 e).1, e]
theorem Fresh.cell {w w' : World} (f : Fresh w w') {b o : Nat} {v : Value} (h : w.cell? ⟨b, o, none⟩ = some v) : w'.cell? ⟨b, o, none⟩ = some v := by
  have hb : b < w.heap.size := by
    unfold World.cell? at h
    split at h
    · rename_i e
      exact (Array.getElem?_eq_some_iff.1 e).1
    · cases h
  rw [← h]
  unfold World.cell?
  rw [f.below.block b hb]
/-! Numbers of 64 bits as natural numbers. -/
theorem nmul (a b : Nat) : (a : Int) * (b : Int) = ((a * b : Nat) : Int) := (Int.natCast_mul a b).symm
theorem nadd (a b : Nat) : (a : Int) + (b : Int) = ((a + b : Nat) : Int) := (Int.natCast_add a b).symm
theorem nwrap (a : Nat) (ha : a < 18446744073709551616) : IntKind.u64.wrap (a : Int) = (a : Int) := by rw [IntKind.wrap_u64]; omega
theorem nwrapm (a : Nat) : IntKind.u64.wrap (a : Int) = ((a % 18446744073709551616 : Nat) : Int) := by rw [IntKind.wrap_u64]; omega
theorem nmask (a : Nat) (ha : a < 18446744073709551616) : bits .and .u64 (a : Int) 4294967295 = ((a % 4294967296 : Nat) : Int) := by
  have h := u64_and_nat a 4294967295 ha (by omega)
  have e : a &&& 4294967295 = a % 4294967296 := Nat.and_two_pow_sub_one_eq_mod a 32
  rw [e] at h
  exact h
theorem nhalf (a : Nat) : (a : Int) / 4294967296 = ((a / 4294967296 : Nat) : Int) := by omega
theorem nrest (a : Nat) : (a : Int) % 4294967296 = ((a % 4294967296 : Nat) : Int) := by omega
theorem ntdiv (a b : Nat) : (a : Int).tdiv (b : Int) = ((a / b : Nat) : Int) := rfl
theorem ntmod (a b : Nat) : (a : Int).tmod (b : Int) = ((a % b : Nat) : Int) := rfl
theorem ntdivh (a : Nat) : (a : Int).tdiv 4294967296 = ((a / 4294967296 : Nat) : Int) := rfl
theorem ntmodh (a : Nat) : (a : Int).tmod 4294967296 = ((a % 4294967296 : Nat) : Int) := rfl
end Go.Proofs.YtjjfbpjejhjdiabDoor.Dw
namespace Go.Proofs.YtjjfbpjejhjdiabDoor.Dw
open Go.RowKit
/-! A region that draws its order and whose calls lay new blocks alone: one walk, in the order of the text; the class of worlds: w with new blocks behind it. -/
theorem Fresh.drewN {a w : World} (h : Fresh a w) (n : Nat) : Fresh a (w.drewN n) :=
  ⟨⟨h.below.os, h.below.tape, h.below.output, h.below.size, h.below.block⟩, h.grown⟩
structure Later (w : World) where
  val : World
  fresh : Fresh w val
theorem later_some (w : World) : Nonempty (Later w) := ⟨⟨w, Fresh.refl w⟩⟩
theorem wp_region_later {P : Program} {id : Nat} {Q : Exit → Act → World → Prop} {a : Act} {w : World} {l : List Oper} (hm : P.follows .mixedOrders = true) (hB : Region.lexB .any l.toArray = true)
    (h : wpQuiet P l.toArray (fun w' => ∃ x : Later w, w' = x.val) (fun a' => ∀ w', (∃ x : Later w, w' = x.val) → Q .normal a' w') l a) : (Code.region id l.toArray true).wp P Q a w :=
  wp_region_quiet (C := fun w' => ∃ x : Later w, w' = x.val) hm hB ⟨⟨w.drew, (Fresh.refl w).drew⟩, rfl⟩ (by simpa using h)
theorem later_of {P : Program} {f : FuncId} {args : Array Value} {w : World} {x : Later w} {v : Value} (h : Calls P f args x.val fun e w' => e = .returned v ∧ Fresh x.val w') :
    Calls P f args x.val fun e w'' => e = .returned v ∧ ∃ y : Later w, w'' = y.val :=
  h.mono fun _ w' ⟨he, hf⟩ => ⟨he, ⟨w', x.fresh.trans hf⟩, rfl⟩
theorem later_same {P : Program} {f : FuncId} {args : Array Value} {w : World} {x : Later w} {v : Value} (h : Calls P f args x.val fun e w' => e = .returned v ∧ w' = x.val) :
    Calls P f args x.val fun e w'' => e = .returned v ∧ ∃ y : Later w, w'' = y.val :=
  h.mono fun _ _ ⟨he, hf⟩ => ⟨he, x, hf⟩
theorem later_cell {w : World} {b o : Nat} {v : Value} (h : w.cell? ⟨b, o, none⟩ = some v) (x : Later w) : x.val.cell? ⟨b, o, none⟩ = some v := x.fresh.cell h
end Go.Proofs.YtjjfbpjejhjdiabDoor.Dw
namespace Go.Proofs.YtjjfbpjejhjdiabDoor.Dw
open Go.RowKit
/-! The walks' words for the steps of the mixing. -/
theorem xor30 (x : Nat) (hx : x < 18446744073709551616) : bits .xor .u64 (x : Int) ((x : Int) / 1073741824) = ((xs 30 x : Nat) : Int) :=
  u64_xor_nat x (x / 1073741824) hx (by omega)
theorem xor27 (x : Nat) (hx : x < 18446744073709551616) : bits .xor .u64 (x : Int) ((x : Int) / 134217728) = ((xs 27 x : Nat) : Int) :=
  u64_xor_nat x (x / 134217728) hx (by omega)
theorem xor31 (x : Nat) (hx : x < 18446744073709551616) : bits .xor .u64 (x : Int) ((x : Int) / 2147483648) = ((xs 31 x : Nat) : Int) :=
  u64_xor_nat x (x / 2147483648) hx (by omega)
theorem nmul1 (a : Nat) : IntKind.u64.wrap ((a : Int) * 13787848793156543929) = ((a * 13787848793156543929 % 18446744073709551616 : Nat) : Int) := by rw [IntKind.wrap_u64]; omega
theorem nmul2 (a : Nat) : IntKind.u64.wrap ((a : Int) * 10723151780598845931) = ((a * 10723151780598845931 % 18446744073709551616 : Nat) : Int) := by rw [IntKind.wrap_u64]; omega
theorem xorr30 (x : Nat) (hx : x < 18446744073709551616) : bits .xor .u64 ((xs 30 x : Nat) : Int) ((x : Int) / 1152921504606846976) = ((sx 30 x : Nat) : Int) :=
  u64_xor_nat (xs 30 x) (x / 1152921504606846976) (xs_lt hx) (by omega)
theorem xorr27 (x : Nat) (hx : x < 18446744073709551616) : bits .xor .u64 ((xs 27 x : Nat) : Int) ((x : Int) / 18014398509481984) = ((sx 27 x : Nat) : Int) :=
  u64_xor_nat (xs 27 x) (x / 18014398509481984) (xs_lt hx) (by omega)
theorem xorr31 (x : Nat) (hx : x < 18446744073709551616) : bits .xor .u64 ((xs 31 x : Nat) : Int) ((x : Int) / 4611686018427387904) = ((sx 31 x : Nat) : Int) :=
  u64_xor_nat (xs 31 x) (x / 4611686018427387904) (xs_lt hx) (by omega)
theorem nmul3 (a : Nat) : IntKind.u64.wrap ((a : Int) * 3573116690164977347) = ((a * 3573116690164977347 % 18446744073709551616 : Nat) : Int) := by rw [IntKind.wrap_u64]; omega
theorem nmul4 (a : Nat) : IntKind.u64.wrap ((a : Int) * 10871156337175269513) = ((a * 10871156337175269513 % 18446744073709551616 : Nat) : Int) := by rw [IntKind.wrap_u64]; omega
end Go.Proofs.YtjjfbpjejhjdiabDoor.Dw
namespace Go.Proofs.YtjjfbpjejhjdiabDoor.Dw
open Go.RowKit
/-! draw.Mix, in a world that holds the table of the rounds. -/
def tab : Array Value := #[.int .i64 30, .int .u64 13787848793156543929, .int .i64 27, .int .u64 10723151780598845931, .int .i64 31, .int .u64 1]
def Holds (w : World) : Prop := ∃ t fr, w.heap[0]? = some (.cells tab t fr)
theorem Holds.later {w w' : World} (h : Holds w) (f : Fresh w w') : Holds w' := by
  obtain ⟨t, fr, e⟩ := h
  exact ⟨t, fr, f.row e⟩
theorem at0 (w : World) : (Instr.index 89 (.agg tab) (.int .i64 0)).run Tryd.prog w = .ok (.agg #[.int .i64 30, .int .u64 13787848793156543929]) w := by kernel_rfl
theorem at1 (w : World) : (Instr.index 89 (.agg tab) (.int .i64 1)).run Tryd.prog w = .ok (.agg #[.int .i64 27, .int .u64 10723151780598845931]) w := by kernel_rfl
theorem at2 (w : World) : (Instr.index 89 (.agg tab) (.int .i64 2)).run Tryd.prog w = .ok (.agg #[.int .i64 31, .int .u64 1]) w := by kernel_rfl
set_option maxHeartbeats 1000000 in
theorem mix_any (x : Nat) (w : World) (hw : Holds w) (hx : x < 18446744073709551616) :
    Calls Tryd.prog 46 #[.int .u64 (x : Int)] w fun e w' => e = .returned (.int .u64 ((mix x : Nat) : Int)) ∧ Fresh w w' := by
  obtain ⟨t, fr, hg⟩ := hw
  have HG := hidd hg
  clear hg
  have i0 := at0
  have i1 := at1
  have i2 := at2
  go_enter Tryd.func46, Tryd.ntmps46
  go_wp2_with (refine wpList_load_row rfl 89 _ rfl 0 rfl t _ fr _ HG.out Tryd.underlying89 rfl (by kernel_rfl) ?_)
  refine wp_loop_rounds 4 ?_
  rw [rounds_succ]
  go_wp2
  go_quiet (fail)
  go_wp2
  rw [xor30 x hx, nmul1]
  have f1 : Fresh w ((w.alloc (.cells #[.int .i64 30, .int .u64 13787848793156543929] 88)).drewN nq) := ((Fresh.refl w).alloc _ _).drewN _
  generalize ((w.alloc (.cells #[.int .i64 30, .int .u64 13787848793156543929] 88)).drewN nq) = w1 at f1
  have hy := mod_lt64 (xs 30 x * 13787848793156543929)
  obtain ⟨y, ey⟩ : ∃ y, y = xs 30 x * 13787848793156543929 % 18446744073709551616 := ⟨_, rfl⟩
  rw [← ey] at hy ⊢
  have EY := hidd ey
  clear ey
  rw [rounds_succ]
  go_wp2
  go_quiet (fail)
  go_wp2
  rw [xor27 y hy, nmul2]
  have f2 : Fresh w1 ((w1.alloc (.cells #[.int .i64 27, .int .u64 10723151780598845931] 88)).drewN nq) := ((Fresh.refl w1).alloc _ _).drewN _
  generalize ((w1.alloc (.cells #[.int .i64 27, .int .u64 10723151780598845931] 88)).drewN nq) = w2 at f2
  have hz := mod_lt64 (xs 27 y * 10723151780598845931)
  obtain ⟨z, ez⟩ : ∃ z, z = xs 27 y * 10723151780598845931 % 18446744073709551616 := ⟨_, rfl⟩
  rw [← ez] at hz ⊢
  have EZ := hidd ez
  clear ez
  rw [rounds_succ]
  go_wp2
  go_quiet (fail)
  go_wp2
  rw [xor31 z hz, nwrap _ (xs_lt hz)]
  have f3 : Fresh w2 ((w2.alloc (.cells #[.int .i64 31, .int .u64 1] 88)).drewN nq) := ((Fresh.refl w2).alloc _ _).drewN _
  generalize ((w2.alloc (.cells #[.int .i64 31, .int .u64 1] 88)).drewN nq) = w3 at f3
  rw [rounds_succ]
  go_wp2
  go_ret
  exact ⟨ret_int (by unfold mix; rw [← EY.out, ← EZ.out]), (f1.trans f2).trans f3⟩
end Go.Proofs.YtjjfbpjejhjdiabDoor.Dw
namespace Go.Proofs.YtjjfbpjejhjdiabDoor.Dw
open Go.RowKit
/-! draw.At, and the document's. A place counts as the number of 64 bits with the same bits. -/
/-- The number of 64 bits with the same bits. -/
def num (p : Int) : Nat := (p % 18446744073709551616).toNat
theorem num_lt (p : Int) : num p < 18446744073709551616 := by unfold num; omega
theorem num_inj {p q : Int} (p0 : -9223372036854775808 ≤ p) (p1 : p ≤ 9223372036854775807) (q0 : -9223372036854775808 ≤ q) (q1 : q ≤ 9223372036854775807) : num p = num q ↔ p = q := by
  unfold num; omega
theorem nwrapi (p : Int) : IntKind.u64.wrap p = ((num p : Nat) : Int) := by rw [IntKind.wrap_u64]; unfold num; omega
theorem num_nat (a : Nat) : num (a : Int) = a % 18446744073709551616 := by unfold num; omega
theorem numg (a : Nat) : num (11400714819323198485 * (a : Int)) = 11400714819323198485 * a % 18446744073709551616 := by
  have e : (11400714819323198485 : Int) * (a : Int) = ((11400714819323198485 * a : Nat) : Int) := (Int.natCast_mul 11400714819323198485 a).symm
  rw [e, num_nat]
theorem seed_in (s : Nat) : IntKind.u64.wrap ((s : Int) + 11400714819323198485) = (((s + 11400714819323198485) % 18446744073709551616 : Nat) : Int) := by rw [IntKind.wrap_u64]; omega
theorem place_in (a : Nat) (p : Int) : IntKind.u64.wrap ((a : Int) + IntKind.u64.wrap (11400714819323198485 * IntKind.u64.wrap p)) = (((a + 11400714819323198485 * num p % 18446744073709551616) % 18446744073709551616 : Nat) : Int) := by
  rw [nwrapi p, nwrapi (11400714819323198485 * _), numg, nadd, nwrapm]
set_option maxHeartbeats 1000000 in
theorem at_any (s : Nat) (p l : Int) (w : World) (hw : Holds w) :
    Calls Tryd.prog 29 #[.int .u64 (s : Int), .int .i64 p, .int .i64 l] w fun e w' => e = .returned (.int .u64 ((atN s (num p) (num l) : Nat) : Int)) ∧ Fresh w w' := by
  go_enter Tryd.func29, Tryd.ntmps29
  go_wp2_with fail
  rw [seed_in]
  refine (mix_any _ _ hw (mod_lt64 _)).mono ?_; rintro e w1 ⟨rfl, f1⟩
  obtain ⟨a, ea⟩ : ∃ a, a = mix ((s + 11400714819323198485) % 18446744073709551616) := ⟨_, rfl⟩
  rw [← ea]
  have EA := hidd ea
  clear ea
  go_wp2_with fail
  rw [place_in]
  refine (mix_any _ _ (hw.later f1) (mod_lt64 _)).mono ?_; rintro e w2 ⟨rfl, f2⟩
  obtain ⟨b, eb⟩ : ∃ b, b = mix ((a + 11400714819323198485 * num p % 18446744073709551616) % 18446744073709551616) := ⟨_, rfl⟩
  rw [← eb]
  have EB := hidd eb
  clear eb
  go_wp2_with fail
  rw [place_in]
  refine (mix_any _ _ ((hw.later f1).later f2) (mod_lt64 _)).mono ?_; rintro e w3 ⟨rfl, f3⟩
  go_wp2
  go_ret
  exact ⟨ret_int (by unfold atN; rw [← EA.out, ← EB.out, Nat.add_mod_mod]), (f1.trans f2).trans f3⟩
end Go.Proofs.YtjjfbpjejhjdiabDoor.Dw
namespace Go.Proofs.YtjjfbpjejhjdiabDoor.Dw
open Go.RowKit
/-! math/bits.Mul64, draw.product, draw.Below: every pair of numbers. -/
set_option maxHeartbeats 1000000 in
theorem mul64_any (x y : Nat) (w : World) (hx : x < 18446744073709551616) (hy : y < 18446744073709551616) :
    Calls Tryd.prog 63 #[.int .u64 (x : Int), .int .u64 (y : Int)] w fun e w' => e = .returned (.tuple #[.int .u64 ((below x y : Nat) : Int), .int .u64 ((x * y % 18446744073709551616 : Nat) : Int)]) ∧ w' = w := by
  obtain ⟨bd, bt, bw, hhi⟩ := Lib.mul64_hi x y hx hy
  have HH := hidd hhi
  clear hhi
  have ba := Lib.half_mul_le (a := x / 4294967296) (b := y / 4294967296) (by omega) (by omega)
  have bb := Lib.half_mul_le (a := x / 4294967296) (b := y % 4294967296) (by omega) (by omega)
  have bc := Lib.half_mul_le (a := x % 4294967296) (b := y / 4294967296) (by omega) (by omega)
  have ba' : x / 4294967296 * (y / 4294967296) < 18446744073709551616 := by omega
  have bb' : x / 4294967296 * (y % 4294967296) < 18446744073709551616 := by omega
  have bc' : x % 4294967296 * (y / 4294967296) < 18446744073709551616 := by omega
  have bh1 : x / 4294967296 * (y / 4294967296) + (x / 4294967296 * (y % 4294967296) + x % 4294967296 * (y % 4294967296) / 4294967296) / 4294967296 < 18446744073709551616 := by omega
  have bh : x / 4294967296 * (y / 4294967296) + (x / 4294967296 * (y % 4294967296) + x % 4294967296 * (y % 4294967296) / 4294967296) / 4294967296 + ((x / 4294967296 * (y % 4294967296) + x % 4294967296 * (y % 4294967296) / 4294967296) % 4294967296 + x % 4294967296 * (y / 4294967296)) / 4294967296 < 18446744073709551616 := by omega
  go_enter Tryd.func63, Tryd.ntmps63
  go_wp2
  simp only [nmask x hx, nmask y hy, nhalf, nmul, nadd, nwrap _ bd, nwrap _ bb', nwrap _ bt, nmask _ bt, nwrap _ bc', nwrap _ bw, nwrap _ ba', nwrap _ bh1, nwrap _ bh, nwrapm (x * y)]
  rw [HH.out]
  go_ret2
  exact ⟨rfl, rfl⟩
set_option maxHeartbeats 1000000 in
theorem product_any (x y : Nat) (w : World) (hx : x < 18446744073709551616) (hy : y < 18446744073709551616) :
    Calls Tryd.prog 45 #[.int .u64 (x : Int), .int .u64 (y : Int)] w fun e w' => e = .returned (.agg #[.int .u64 ((below x y : Nat) : Int), .int .u64 ((x * y % 18446744073709551616 : Nat) : Int)]) ∧ Fresh w w' := by
  go_enter Tryd.func45, Tryd.ntmps45
  go_wp2_with fail
  refine (mul64_any x y _ hx hy).mono ?_; rintro e w' ⟨rfl, rfl⟩
  go_wp2
  go_returns
  exact ⟨rfl, (Fresh.refl w).alloc _ _⟩
theorem first_of (a b : Value) (w : World) : (Instr.index 76 (.agg #[a, b]) (.int .i64 0)).run Tryd.prog w = .ok a w := by kernel_rfl
set_option maxHeartbeats 1000000 in
theorem below_any (x y : Nat) (w : World) (hx : x < 18446744073709551616) (hy : y < 18446744073709551616) :
    Calls Tryd.prog 28 #[.int .u64 (x : Int), .int .u64 (y : Int)] w fun e w' => e = .returned (.int .u64 ((below x y : Nat) : Int)) ∧ Fresh w w' := by
  go_enter Tryd.func28, Tryd.ntmps28
  go_wp2_with fail
  refine (product_any x y _ hx hy).mono ?_; rintro e w' ⟨rfl, hf⟩
  have hi := fun a b => first_of a b w'
  go_wp2
  go_ret
  exact ⟨rfl, hf⟩
end Go.Proofs.YtjjfbpjejhjdiabDoor.Dw
