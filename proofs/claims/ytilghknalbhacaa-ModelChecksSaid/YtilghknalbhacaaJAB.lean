import Derived.Test.YtilghknalbhacaaRows
import Derived.Test.YtilghknalbhacaaJAA
import Derived.WalkKit
namespace Go.Proofs.Ytilghknalbhacaa
open Go.RowKit
/-! Small facts that all walks want. -/
theorem i64_and1 (n : Int) : bits .and .i64 n 1 = n % 2 := by
  have h1 : (BitVec.ofInt 64 1).toNat = 2 ^ 1 - 1 := by decide
  have key : (BitVec.ofInt 64 n &&& BitVec.ofInt 64 1).toNat = (n % ((2 ^ 64 : Nat) : Int)).toNat % 2 ^ 1 := by
    rw [BitVec.toNat_and, BitVec.toNat_ofInt, h1, Nat.and_two_pow_sub_one_eq_mod]
  show IntKind.i64.wrap ((BitVec.ofInt 64 n &&& BitVec.ofInt 64 1).toNat : Nat) = n % 2
  rw [key, IntKind.wrap_i64]
  omega
theorem wr (x : Int) (h0 : -9223372036854775808 ≤ x) (h1 : x ≤ 9223372036854775807) : wrap64 x = x := by unfold wrap64; omega
/-- A region that draws its order and whose calls lay new blocks alone: one walk, in the order of the text; the class of worlds: w with new blocks behind it. -/
structure Later (w : World) where
  val : World
  fresh : Below w.heap.size w val
theorem later_some (w : World) : Nonempty (Later w) := ⟨⟨w, Below.refl _ _⟩⟩
theorem wp_region_later {P : Program} {id : Nat} {Q : Exit → Act → World → Prop} {a : Act} {w : World} {l : List Oper} (hm : P.follows .mixedOrders = true) (hB : Region.lexB .any l.toArray = true)
    (h : wpQuiet P l.toArray (fun w' => ∃ x : Later w, w' = x.val) (fun a' => ∀ w', (∃ x : Later w, w' = x.val) → Q .normal a' w') l a) : (Code.region id l.toArray true).wp P Q a w :=
  wp_region_quiet (C := fun w' => ∃ x : Later w, w' = x.val) hm hB ⟨⟨w.drew, (Below.refl _ _).drew⟩, rfl⟩ (by simpa using h)
theorem later_of {P : Program} {f : FuncId} {args : Array Value} {w : World} {x : Later w} {v : Value} (h : Calls P f args x.val fun e w' => e = .returned v ∧ Below x.val.heap.size x.val w') :
    Calls P f args x.val fun e w'' => e = .returned v ∧ ∃ y : Later w, w'' = y.val :=
  h.mono fun _ w' ⟨he, hf⟩ => ⟨he, ⟨w', fresh_trans x.fresh hf⟩, rfl⟩
theorem later_same {P : Program} {f : FuncId} {args : Array Value} {w : World} {x : Later w} {v : Value} (h : Calls P f args x.val fun e w' => e = .returned v ∧ w' = x.val) :
    Calls P f args x.val fun e w'' => e = .returned v ∧ ∃ y : Later w, w'' = y.val :=
  h.mono fun _ _ ⟨he, hf⟩ => ⟨he, x, hf⟩
theorem later_cell {w : World} {b o : Nat} {v : Value} (h : w.cell? ⟨b, o, none⟩ = some v) (x : Later w) : x.val.cell? ⟨b, o, none⟩ = some v := fresh_cell x.fresh h
end Go.Proofs.Ytilghknalbhacaa
namespace Go.Proofs.Ytilghknalbhacaa
open Go.RowKit
/-! The plain mathematics of sums: no program in sight. -/
def isum (f : Nat → Int) : Nat → Int
  | 0 => 0
  | n + 1 => isum f n + f n
theorem isum_congr {f g : Nat → Int} : ∀ {n : Nat}, (∀ i, i < n → f i = g i) → isum f n = isum g n
  | 0, _ => rfl
  | n + 1, h => by
    show isum f n + f n = isum g n + g n
    rw [isum_congr (fun i hi => h i (by omega)), h n (by omega)]
theorem isum_add (f g : Nat → Int) : ∀ n, isum (fun i => f i + g i) n = isum f n + isum g n
  | 0 => rfl
  | n + 1 => by
    show isum (fun i => f i + g i) n + (f n + g n) = (isum f n + f n) + (isum g n + g n)
    rw [isum_add f g n]; omega
theorem isum_mul (c : Int) (f : Nat → Int) : ∀ n, isum (fun i => c * f i) n = c * isum f n
  | 0 => by simp [isum]
  | n + 1 => by
    show isum (fun i => c * f i) n + c * f n = c * (isum f n + f n)
    rw [isum_mul c f n, Int.mul_add]
theorem isum_le {f g : Nat → Int} : ∀ {n : Nat}, (∀ i, i < n → f i ≤ g i) → isum f n ≤ isum g n
  | 0, _ => Int.le_refl _
  | n + 1, h => by
    have h1 := isum_le (n := n) (fun i hi => h i (by omega))
    have h2 := h n (by omega)
    show isum f n + f n ≤ isum g n + g n
    omega
theorem isum_zero : ∀ n, isum (fun _ => 0) n = 0
  | 0 => rfl
  | n + 1 => by show isum (fun _ => 0) n + 0 = 0; rw [isum_zero n]; rfl
theorem isum_const (c : Int) : ∀ n : Nat, isum (fun _ => c) n = n * c
  | 0 => by simp [isum]
  | n + 1 => by
    show isum (fun _ => c) n + c = _
    rw [isum_const c n, Int.natCast_add, Int.add_mul]; omega
/-- the value at one place changed -/
def upd (f : Nat → Int) (i : Nat) (a : Int) : Nat → Int := fun j => if j = i then a else f j
theorem isum_upd (f : Nat → Int) (i : Nat) (a : Int) : ∀ n, isum (upd f i a) n = isum f n + (if i < n then a - f i else 0)
  | 0 => by simp [isum]
  | n + 1 => by
    show isum (upd f i a) n + upd f i a n = isum f n + f n + _
    rw [isum_upd f i a n]
    unfold upd
    by_cases h : n = i
    · subst h; simp; omega
    · by_cases h2 : i < n
      · rw [if_neg h, if_pos h2, if_pos (by omega)]; omega
      · rw [if_neg h, if_neg h2, if_neg (by omega)]; omega
/-- A changing about of places: every sum is as it was. -/
structure Perm (n : Nat) (p : Nat → Nat) : Prop where
  lt : ∀ i, i < n → p i < n
  sum : ∀ f : Nat → Int, isum (fun i => f (p i)) n = isum f n
theorem perm_id (n : Nat) : Perm n (fun i => i) := ⟨fun _ h => h, fun _ => rfl⟩
def swp (p : Nat → Nat) (i k : Nat) : Nat → Nat := fun j => if j = k then p i else if j = i then p k else p j
theorem Perm.swp {n : Nat} {p : Nat → Nat} (h : Perm n p) {i k : Nat} (hi : i < n) (hk : k < n) : Perm n (swp p i k) := by
  refine ⟨fun j hj => ?_, fun f => ?_⟩
  · unfold Ytilghknalbhacaa.swp; split
    · exact h.lt i hi
    · split
      · exact h.lt k hk
      · exact h.lt j hj
  · rw [← h.sum f]
    have e : (fun j => f (Ytilghknalbhacaa.swp p i k j)) = upd (upd (fun j => f (p j)) i (f (p k))) k (f (p i)) := by
      funext j
      unfold upd Ytilghknalbhacaa.swp
      by_cases h1 : j = k
      · simp [h1]
      · by_cases h2 : j = i
        · simp [h2]; simp [h2] at h1; simp [h1]
        · simp [h1, h2]
    rw [e, isum_upd, isum_upd, if_pos hi, if_pos hk]
    unfold upd
    by_cases h3 : k = i
    · subst h3; simp
    · simp [h3]; omega
theorem Perm.congr {n : Nat} {p q : Nat → Nat} (h : Perm n p) (e : ∀ i, i < n → p i = q i) : Perm n q :=
  ⟨fun i hi => by rw [← e i hi]; exact h.lt i hi, fun f => by rw [← h.sum f]; exact isum_congr (fun i hi => by rw [e i hi])⟩
theorem isum_pos_ex {f : Nat → Int} : ∀ {n : Nat}, (∀ i, i < n → 0 ≤ f i) → 0 < isum f n → ∃ i, i < n ∧ 0 < f i
  | 0, _, h => absurd h (by simp [isum])
  | n + 1, h0, h => by
    by_cases hn : 0 < f n
    · exact ⟨n, by omega, hn⟩
    · have h' : 0 < isum f n + f n := h
      obtain ⟨i, hi, hp⟩ := isum_pos_ex (f := f) (n := n) (fun i hi => h0 i (by omega)) (by omega)
      exact ⟨i, by omega, hp⟩
theorem Perm.onto {n : Nat} {p : Nat → Nat} (h : Perm n p) {i : Nat} (hi : i < n) : ∃ j, j < n ∧ p j = i := by
  have hs := h.sum (upd (fun _ => 0) i 1)
  rw [isum_upd, isum_zero, if_pos hi] at hs
  obtain ⟨j, hj, hp⟩ := isum_pos_ex (f := fun j => upd (fun _ => 0) i 1 (p j)) (n := n) (fun j _ => by unfold upd; split <;> simp) (by omega)
  refine ⟨j, hj, ?_⟩
  unfold upd at hp
  by_cases e : p j = i
  · exact e
  · rw [if_neg e] at hp; simp at hp
theorem wadd (a b : Int) : wrap64 (wrap64 a + wrap64 b) = wrap64 (a + b) := by unfold wrap64; omega
theorem waddr (a b : Int) : wrap64 (wrap64 a + b) = wrap64 (a + b) := by unfold wrap64; omega
theorem wid (x : Int) (h0 : -9223372036854775808 ≤ x) (h1 : x ≤ 9223372036854775807) : wrap64 x = x := by unfold wrap64; omega
theorem wbd (x : Int) : -9223372036854775808 ≤ wrap64 x ∧ wrap64 x ≤ 9223372036854775807 := by unfold wrap64; omega
/-- the sum of products, round 64 bits -/
def dot (f g : Nat → Int) (n : Nat) : Int := wrap64 (isum (fun i => f i * g i) n)
theorem dot_zero (f g : Nat → Int) : dot f g 0 = 0 := by unfold dot isum wrap64; omega
theorem dot_succ (f g : Nat → Int) (n : Nat) : wrap64 (dot f g n + wrap64 (f n * g n)) = dot f g (n + 1) := by unfold dot; rw [wadd]; rfl
theorem dot_succ' (f g : Nat → Int) (n : Nat) : wrap64 (dot f g n + f n * g n) = dot f g (n + 1) := by unfold dot; rw [waddr]; rfl
theorem dot_congr {f g f' g' : Nat → Int} {n : Nat} (h : ∀ i, i < n → f i = f' i) (k : ∀ i, i < n → g i = g' i) : dot f g n = dot f' g' n := by
  unfold dot; rw [isum_congr (fun i hi => by rw [h i hi, k i hi])]
theorem dot_perm {f g : Nat → Int} {n : Nat} {p : Nat → Nat} (h : Perm n p) : dot (fun i => f (p i)) (fun i => g (p i)) n = dot f g n := by
  unfold dot; rw [h.sum (fun i => f i * g i)]
theorem dot_bd (f g : Nat → Int) (n : Nat) : -9223372036854775808 ≤ dot f g n ∧ dot f g n ≤ 9223372036854775807 := wbd _
end Go.Proofs.Ytilghknalbhacaa
namespace Go.Proofs.Ytilghknalbhacaa
open Go.RowKit
/-! mod, at, order. -/
theorem infoI : (Try.prog.info? 3).map (fun i => (i.zero, i.size, i.bytes)) = some (some (.int .i64 0), 1, 8) := by kernel_rfl
theorem infoI8 : (Try.prog.info? 84).map (fun i => (i.zero, i.size, i.bytes)) = some (some (.int .i8 0), 1, 1) := by kernel_rfl
theorem infoI64 : (Try.prog.info? 2).map (fun i => (i.zero, i.size, i.bytes)) = some (some (.int .i64 0), 1, 8) := by kernel_rfl
def atf (n : Nat) (f : Nat → Int) (i : Nat) : Int := if n = 0 then 0 else f (i % n)
/-- What a list of the call's own is, once it is not grown any more: a row. -/
theorem Own.row {w : World} {base : Nat} {e : TypeId} {sz : Nat} {v : Value} {n : Nat} {cs : Nat → Value} (h : Own w base e sz v n cs) (hn : 0 < n) :
    ∃ g cap F, v = .slice (some ⟨g, 0, none⟩) n cap ∧ n ≤ cap ∧ cap ≤ maxLen ∧ base ≤ g ∧ w.rowIs g e (cap * sz) F ∧ ∀ j, j < n * sz → F j = cs j := by
  rcases h.2 with ⟨rfl, rfl⟩ | ⟨g, cap, cur, rfl, hb, hg, hnc, hcm, hcs, htake⟩
  · omega
  · refine ⟨g, cap, fun j => cur[j]?.getD (.bool false), rfl, hnc, hcm, hb, ⟨cur, hg, hcs, fun i hi => ?_⟩, fun j hj => ?_⟩
    · show cur[i]? = some (cur[i]?.getD _)
      rw [Array.getElem?_eq_getElem (by omega)]; rfl
    · have h1 := congrArg (fun l => l[j]?) htake
      simp only [List.getElem?_take, hj, if_true, List.getElem?_map, List.getElem?_range hj, Option.map_some, Array.getElem?_toList] at h1
      show cur[j]?.getD _ = cs j
      rw [h1]; rfl
theorem Own.row1 {w : World} {base : Nat} {e : TypeId} {v : Value} {n : Nat} {cs : Nat → Value} (h : Own w base e 1 v n cs) (hn : 0 < n) :
    ∃ g cap F, v = .slice (some ⟨g, 0, none⟩) n cap ∧ n ≤ cap ∧ cap ≤ maxLen ∧ base ≤ g ∧ w.rowIs g e cap F ∧ ∀ j, j < n → F j = cs j := by
  obtain ⟨g, cap, F, h1, h2, h3, h4, h5, h6⟩ := h.row hn
  exact ⟨g, cap, F, h1, h2, h3, h4, by simpa using h5, fun j hj => h6 j (by omega)⟩
theorem rowIs_rd' {w : World} {b n cap : Nat} {t : TypeId} {f : Nat → Value} (h : w.rowIs b t cap f) (hn : n ≤ cap) (hc : cap ≤ maxLen) : RdA w (some ⟨b, 0, none⟩) 1 n cap f :=
  ⟨hn, hc, fun _ => ⟨b, 0, rfl, fun j hj => by simpa using h.cell (i := j) (by omega)⟩⟩
end Go.Proofs.Ytilghknalbhacaa
namespace Go.Proofs.Ytilghknalbhacaa
open Go.RowKit
/-! Bytes: numbers, narrow lists, digests. -/
theorem infoU8 : (Try.prog.info? 5).map (fun i => (i.zero, i.size, i.bytes)) = some (some (.int .u8 0), 1, 1) := by kernel_rfl
def bV (L : List Int) : Nat → Value := fun i => .int .u8 (L.getD i 0)
/-- a list of bytes of the call's own -/
def OwB (w : World) (base : Nat) (v : Value) (L : List Int) : Prop := Own w base 5 1 v L.length (bV L)
/-- a list of bytes that is read -/
def RdB (w : World) (v : Value) (L : List Int) : Prop := Rd w v 1 L.length (bV L)
theorem bV_pre (L M : List Int) {i : Nat} (h : i < L.length) : bV L i = bV (L ++ M) i := by
  unfold bV
  rw [List.getD_eq_getElem?_getD, List.getD_eq_getElem?_getD, List.getElem?_append_left h]
theorem bV_suf (L M : List Int) (j : Nat) : bV (L ++ M) (L.length + j) = bV M j := by
  unfold bV
  rw [List.getD_eq_getElem?_getD, List.getD_eq_getElem?_getD, List.getElem?_append_right (by omega), Nat.add_sub_cancel_left]
theorem bV_one (L : List Int) (i : Nat) : (bV L i).oneCell' = true := rfl
/-- the lowest k bytes of a number -/
def num (n k : Nat) : List Int := (List.range k).map (fun i => ((n / 256 ^ i % 256 : Nat) : Int))
theorem num_len (n k : Nat) : (num n k).length = k := by simp [num]
theorem num_at {n k i : Nat} (h : i < k) : bV (num n k) i = .int .u8 ((n / 256 ^ i % 256 : Nat) : Int) := by
  unfold bV num
  rw [List.getD_eq_getElem?_getD, List.getElem?_map, List.getElem?_range h]
  rfl
theorem num_next (n i : Nat) : n / 256 ^ i / 256 = n / 256 ^ (i + 1) := by rw [Nat.div_div_eq_div_mul, Nat.pow_succ]
/-- narrow numbers as bytes -/
def nbL (f : Nat → Int) (n : Nat) : List Int := (List.range n).map (fun i => f i % 256)
theorem nbL_len (f : Nat → Int) (n : Nat) : (nbL f n).length = n := by simp [nbL]
theorem nbL_at {f : Nat → Int} {n i : Nat} (h : i < n) : bV (nbL f n) i = .int .u8 (f i % 256) := by
  unfold bV nbL
  rw [List.getD_eq_getElem?_getD, List.getElem?_map, List.getElem?_range h]
  rfl
/-- the digest of the first i bytes -/
def dgF (L : List Int) : Nat → Nat
  | 0 => 14695981039346656037
  | i + 1 => ((dgF L i) ^^^ (L.getD i 0).toNat) * 1099511628211 % 18446744073709551616
/-- bytes -/
def Byt (L : List Int) : Prop := ∀ x ∈ L, 0 ≤ x ∧ x < 256
theorem Byt.app {L M : List Int} (h : Byt L) (k : Byt M) : Byt (L ++ M) := fun x hx => by
  rcases List.mem_append.1 hx with e | e
  · exact h x e
  · exact k x e
theorem Byt.at_ {L : List Int} (h : Byt L) (i : Nat) : 0 ≤ L.getD i 0 ∧ L.getD i 0 < 256 := by
  rw [List.getD_eq_getElem?_getD]
  by_cases hi : i < L.length
  · rw [List.getElem?_eq_getElem hi]
    exact h _ (List.getElem_mem _)
  · rw [List.getElem?_eq_none (by omega)]
    exact ⟨by decide, by decide⟩
theorem num_byt (n k : Nat) : Byt (num n k) := fun x hx => by
  obtain ⟨i, _, rfl⟩ := List.mem_map.1 hx
  omega
theorem nbL_byt (f : Nat → Int) (n : Nat) : Byt (nbL f n) := fun x hx => by
  obtain ⟨i, _, rfl⟩ := List.mem_map.1 hx
  omega
theorem dgF_lt (L : List Int) (i : Nat) : dgF L i < 18446744073709551616 := by
  cases i with
  | zero => show 14695981039346656037 < 18446744073709551616; decide
  | succ i => exact Nat.mod_lt _ (by decide)
theorem dgF_pre (L M : List Int) : ∀ i, i ≤ L.length → dgF (L ++ M) i = dgF L i
  | 0, _ => rfl
  | i + 1, h => by
    unfold dgF
    rw [dgF_pre L M i (by omega), List.getD_eq_getElem?_getD, List.getD_eq_getElem?_getD, List.getElem?_append_left (by omega)]
end Go.Proofs.Ytilghknalbhacaa
