import Derived.Test.YtemmghneohnigaaDoorOwn
import Derived.Test.YtemmghneohnigaaDoorWuF
import Derived.Lib.ItoaLen
import Derived.Lib.AtoiErrMem
namespace Go.Proofs.YtemmghneohnigaaDoor
open Go.RowKit
/-! What calls may change. -/
/-- What a call may have changed among the blocks that were there: those of S alone. -/
structure Chg (w w' : World) (S : Nat → Prop) : Prop where
  low : Below 0 w w'
  block : ∀ b, b < w.heap.size → ¬ S b → w'.heap[b]? = w.heap[b]?
theorem Chg.size {w w' : World} {S : Nat → Prop} (h : Chg w w' S) : w.heap.size ≤ w'.heap.size := h.low.size
theorem Chg.trans {a b c : World} {S T : Nat → Prop} (h : Chg a b S) (k : Chg b c T) (hT : ∀ x, x < a.heap.size → T x → S x) : Chg a c S :=
  ⟨h.low.trans k.low, fun x hx hS => (k.block x (Nat.lt_of_lt_of_le hx h.low.size) (fun t => hS (hT x hx t))).trans (h.block x hx hS)⟩
theorem Chg.of_below {w w' : World} (S : Nat → Prop) (f : Below w.heap.size w w') : Chg w w' S := ⟨⟨f.os, f.tape, f.output, f.size, fun _ h => absurd h (by omega)⟩, fun b hb _ => f.block b hb⟩
theorem Chg.of_app {w w' : World} {v v' : Value} (h : App w w' v v') : Chg w w' (fun b => v.ownBlock = some b) := ⟨⟨h.grown.os, h.grown.tape, h.grown.output, h.grown.size, fun _ h => absurd h (by omega)⟩, fun b hb hS => h.grown.block b hb (fun e => hS e.symm)⟩
theorem Chg.of_set (w : World) (g j : Nat) (x : Value) : Chg w (w.setCell ⟨g, j, none⟩ x) (fun b => b = g) := ⟨(Below.refl 0 w).setCell (Nat.zero_le _) _, fun _ _ hS => Below.heap_setCell _ _ _ _ hS⟩
theorem Chg.refl (w : World) (S : Nat → Prop) : Chg w w S := Chg.of_below S (Below.refl _ _)
theorem Chg.imp {w w' : World} {S T : Nat → Prop} (h : Chg w w' S) (k : ∀ b, b < w.heap.size → S b → T b) : Chg w w' T := ⟨h.low, fun b hb hT => h.block b hb (fun s => hT (k b hb s))⟩
theorem Chg.pre {a b c : World} {S : Nat → Prop} (f : Below a.heap.size a b) (h : Chg b c S) : Chg a c S := (Chg.of_below S f).trans h (fun _ _ t => t)
theorem Chg.post {a b c : World} {S : Nat → Prop} (h : Chg a b S) (f : Below b.heap.size b c) : Chg a c S := h.trans (Chg.of_below (fun _ => False) f) (fun _ _ t => t.elim)
theorem Chg.row {w w' : World} {S : Nat → Prop} (h : Chg w w' S) {b n : Nat} {t : TypeId} {F : Nat → Value} (hr : w.rowIs b t n F) (hb : ¬ S b) : w'.rowIs b t n F := hr.of_block (h.block b hr.lt hb)
theorem Chg.below {w w' : World} {S : Nat → Prop} (h : Chg w w' S) {B : Nat} {a : World} (hb : Below B a w) (hB : B ≤ w.heap.size) (hS : ∀ x, S x → B ≤ x) : Below B a w' :=
  hb.trans ⟨h.low.os, h.low.tape, h.low.output, h.low.size, fun k hk => h.block k (by omega) (fun s => by have := hS k s; omega)⟩
/-- 'Own' is kept where the list's block is. -/
theorem Own.chg {w w' : World} {S : Nat → Prop} (c : Chg w w' S) {base : Nat} {e : TypeId} {sz : Nat} {v : Value} {n : Nat} {cs : Nat → Value} (h : Own w base e sz v n cs) (hS : ∀ b, v.ownBlock = some b → ¬ S b) : Own w' base e sz v n cs := by
  refine ⟨h.1, ?_⟩
  rcases h.2 with hn | ⟨g, cap, cur, rfl, hb, hgg, rest⟩
  · exact .inl hn
  · refine .inr ⟨g, cap, cur, rfl, hb, ?_, rest⟩
    rw [c.block g (Array.getElem?_eq_some_iff.1 hgg).1 (hS g (by simp [Value.ownBlock]))]; exact hgg
end Go.Proofs.YtemmghneohnigaaDoor
namespace Go.Proofs.YtemmghneohnigaaDoor
open Go.RowKit
/-! The reader: must, blank, upToBlank, more, ends. -/
/-- a reader in memory -/
def Rdr (w : World) (rb : Nat) (r : List Int) (f : Bool) : Prop := w.heap[rb]? = some (.cells #[.string (strOfNums r), .bool f] 72 (0, 0))
theorem Rdr.cells {w : World} {rb : Nat} {r : List Int} {f : Bool} (h : Rdr w rb r f) : w.cell? ⟨rb, 0, none⟩ = some (.string (strOfNums r)) ∧ w.cell? ⟨rb, 1, none⟩ = some (.bool f) ∧ (∀ j, w.frozen? ⟨rb, j, none⟩ = false) ∧ rb < w.heap.size := by
  unfold Rdr at h
  exact ⟨by simp [World.cell?, h], by simp [World.cell?, h], fun j => by simp [World.frozen?, h], (Array.getElem?_eq_some_iff.1 h).1⟩
theorem Rdr.chg {w w' : World} {rb : Nat} {r : List Int} {f : Bool} {S : Nat → Prop} (h : Rdr w rb r f) (c : Chg w w' S) (hS : ¬ S rb) : Rdr w' rb r f := by
  unfold Rdr at *
  rw [c.block rb (Array.getElem?_eq_some_iff.1 h).1 hS]; exact h
theorem Rdr.fresh {w w' : World} {rb : Nat} {r : List Int} {f : Bool} (h : Rdr w rb r f) (c : Below w.heap.size w w') : Rdr w' rb r f := h.chg (Chg.of_below (fun _ => False) c) (fun h => h)
theorem Rdr.rest {w : World} {rb : Nat} {r : List Int} {f : Bool} (h : Rdr w rb r f) (r' : List Int) : Rdr (w.setCell ⟨rb, 0, none⟩ (.string (strOfNums r'))) rb r' f := by
  unfold Rdr at *
  rw [setCell_eq_setRow w rb 0 _ _ _ _ h, setRow_heap w rb _ _ _ _ h]
  rfl
theorem Rdr.fail {w : World} {rb : Nat} {r : List Int} {f : Bool} (h : Rdr w rb r f) (f' : Bool) : Rdr (w.setCell ⟨rb, 1, none⟩ (.bool f')) rb r f' := by
  unfold Rdr at *
  rw [setCell_eq_setRow w rb 1 _ _ _ _ h, setRow_heap w rb _ _ _ _ h]
  rfl
theorem s0 : strOfNums [] = ⟨#[]⟩ := rfl
set_option maxRecDepth 20000 in
theorem must_bad {w : World} {rb : Nat} {r : List Int} {f : Bool} (h : Rdr w rb r f) :
    Calls Tryd.prog 51 #[.pointer (some ⟨rb, 0, none⟩), .bool false] w fun e w' => e = .returned (.tuple #[]) ∧ Rdr w' rb [] true ∧ Chg w w' (fun b => b = rb) := by
  obtain ⟨c0, c1, fz, _⟩ := h.cells
  have f0 := fz 0
  have f1 := fz 1
  have HR := hidd ((h.rest []).fail true)
  have HC := hidd ((Chg.of_set w rb 0 (.string (strOfNums []))).trans (Chg.of_set _ rb 1 (.bool true)) (fun _ _ h => h))
  rw [s0] at HR HC
  clear h fz
  go_enter Tryd.func51, Tryd.ntmps51
  go_wp2
  go_end0
  exact ⟨rfl, HR.out, HC.out⟩
set_option maxRecDepth 20000 in
theorem must_ok (rb : Nat) (w : World) :
    Calls Tryd.prog 51 #[.pointer (some ⟨rb, 0, none⟩), .bool true] w fun e w' => e = .returned (.tuple #[]) ∧ w' = w := by
  go_enter Tryd.func51, Tryd.ntmps51
  go_wp2
  go_end0
  exact ⟨rfl, rfl⟩
theorem b32 : Byt [32] := byt_cons (by omega) byt_nil
theorem s32 : strOfNums [32] = ⟨#[32]⟩ := rfl
set_option maxRecDepth 20000 in
theorem blank_ok {w : World} {rb : Nat} {r : List Int} {f : Bool} (h : Rdr w rb (32 :: r) f) (hB : Byt r) :
    Calls Tryd.prog 52 #[.pointer (some ⟨rb, 0, none⟩)] w fun e w' => e = .returned (.tuple #[]) ∧ Rdr w' rb r f ∧ Chg w w' (fun b => b = rb) := by
  obtain ⟨c0, c1, fz, _⟩ := h.cells
  have f0 := fz 0
  have HC := hidd (fun w => cutp_any (t := 32 :: r) (p := [32]) (byt_cons (by omega) hB) b32 w)
  have hp : [32] <+: 32 :: r := ⟨r, rfl⟩
  simp only [hp, decide_true, if_true, s32] at HC
  rw [show List.drop [(32 : Int)].length (32 :: r) = r from rfl] at HC
  have HM := hidd (must_ok rb)
  have HR := hidd (h.rest r)
  have HG := hidd (Chg.of_set w rb 0 (.string (strOfNums r)))
  clear h fz hp
  generalize strOfNums (32 :: r) = s1 at *
  generalize strOfNums r = s2 at *
  go_enter Tryd.func52, Tryd.ntmps52
  go_wp2_with (first | (go_at_call 24; with_reducible refine (HC.out _).mono ?_; rintro e w1 ⟨rfl, hw1⟩; rw [hw1]; clear hw1) | (go_at_call 51; with_reducible refine (HM.out _).mono ?_; rintro e w1 ⟨rfl, hw1⟩; rw [hw1]; clear hw1))
  go_end0
  exact ⟨rfl, HR.out, HG.out⟩
set_option maxRecDepth 20000 in
theorem blank_bad {w : World} {rb : Nat} {r : List Int} {f : Bool} (h : Rdr w rb r f) (hB : Byt r) (hn : ¬ [32] <+: r) :
    Calls Tryd.prog 52 #[.pointer (some ⟨rb, 0, none⟩)] w fun e w' => e = .returned (.tuple #[]) ∧ Rdr w' rb [] true ∧ Chg w w' (fun b => b = rb) := by
  obtain ⟨c0, c1, fz, _⟩ := h.cells
  have f0 := fz 0
  have HC := hidd (fun w => cutp_any hB b32 w)
  simp only [hn, decide_false, if_false, s32] at HC
  have HM := hidd (must_bad (h.rest r))
  have HG := hidd (Chg.of_set w rb 0 (.string (strOfNums r)))
  clear h fz hn
  generalize strOfNums r = s2 at *
  go_enter Tryd.func52, Tryd.ntmps52
  go_wp2_with (first | (go_at_call 24; with_reducible refine (HC.out _).mono ?_; rintro e w1 ⟨rfl, hw1⟩; rw [hw1]; clear hw1) | (go_at_call 51; with_reducible refine (HM.out).mono ?_; rintro e w2 ⟨rfl, hr2, hc2⟩))
  go_end0
  exact ⟨rfl, hr2, HG.out.trans hc2 (fun _ _ h => h)⟩
set_option maxRecDepth 20000 in
theorem more_any {w : World} {rb : Nat} {r : List Int} {f : Bool} (h : Rdr w rb r f) :
    Calls Tryd.prog 55 #[.pointer (some ⟨rb, 0, none⟩)] w fun e w' => e = .returned (.bool (!r.isEmpty)) ∧ w' = w := by
  obtain ⟨c0, c1, fz, _⟩ := h.cells
  have he : (strOfNums r).toList.isEmpty = r.isEmpty := by
    rw [ByteArray.toList_eq, strOfNums_data]
    cases r <;> rfl
  obtain ⟨q, eq⟩ : ∃ q, q = r.isEmpty := ⟨_, rfl⟩
  rw [← eq] at he ⊢
  clear h fz eq
  generalize strOfNums r = s2 at *
  go_enter Tryd.func55, Tryd.ntmps55
  go_wp2
  go_ret
  exact ⟨by first | rfl | (cases q <;> simp_all), rfl⟩
set_option maxRecDepth 20000 in
theorem ends_any {w : World} {rb : Nat} {r : List Int} {f : Bool} (h : Rdr w rb r f) :
    Calls Tryd.prog 37 #[.pointer (some ⟨rb, 0, none⟩)] w fun e w' => e = .returned (.bool (!f && r.isEmpty)) ∧ w' = w := by
  obtain ⟨c0, c1, fz, _⟩ := h.cells
  have HM := hidd (more_any h)
  obtain ⟨q, eq⟩ : ∃ q, q = r.isEmpty := ⟨_, rfl⟩
  rw [← eq] at HM ⊢
  clear h fz eq
  cases f with
  | true =>
    go_enter Tryd.func37, Tryd.ntmps37
    go_wp2
    go_ret
    exact ⟨rfl, rfl⟩
  | false =>
    go_enter Tryd.func37, Tryd.ntmps37
    go_wp2_with (go_at_call 55; with_reducible refine (HM.out).mono ?_; rintro e w1 ⟨rfl, hw1⟩; rw [hw1]; clear hw1)
    go_ret
    exact ⟨by cases q <;> rfl, rfl⟩
end Go.Proofs.YtemmghneohnigaaDoor
namespace Go.Proofs.YtemmghneohnigaaDoor
open Go.RowKit
/-! The library's variables; numbers as data. -/
structure Env (w : World) : Prop where
  syn : ∃ tp p, w.var? Tryd.prog "strconv.ErrSyntax" = some #[.iface tp p]
  ran : ∃ tp p, w.var? Tryd.prog "strconv.ErrRange" = some #[.iface tp p]
  tab : Lib.TabIs Tryd.prog w "internal/strconv.uint64pow10" .u64 Lib.pow10Tab
  big : 6 ≤ w.heap.size
theorem gSyn : Tryd.prog.globalNamed "strconv.ErrSyntax" = some 0 := by kernel_rfl
theorem gRan : Tryd.prog.globalNamed "strconv.ErrRange" = some 1 := by kernel_rfl
theorem gTab : Tryd.prog.globalNamed "internal/strconv.uint64pow10" = some 3 := by kernel_rfl
theorem var_keep {w w' : World} {n : String} {g : Nat} (hg : Tryd.prog.globalNamed n = some g) (h : w'.heap[g]? = w.heap[g]?) : w'.var? Tryd.prog n = w.var? Tryd.prog n := by
  unfold World.var?
  rw [hg]
  simp only [Option.bind_some, h]
theorem Env.keep {w w' : World} (h : Env w) (k : ∀ g, g < 6 → w'.heap[g]? = w.heap[g]?) (hz : w.heap.size ≤ w'.heap.size) : Env w' := by
  refine ⟨?_, ?_, ?_, Nat.le_trans h.big hz⟩
  · rw [var_keep gSyn (k 0 (by omega))]; exact h.syn
  · rw [var_keep gRan (k 1 (by omega))]; exact h.ran
  · have := h.tab
    unfold Lib.TabIs at *
    rw [var_keep gTab (k 3 (by omega))]; exact this
theorem Env.fresh {w w' : World} (h : Env w) (f : Below w.heap.size w w') : Env w' := h.keep (fun g hg => f.block g (by have := h.big; omega)) f.size
theorem Env.chg {w w' : World} {S : Nat → Prop} (h : Env w) (c : Chg w w' S) (hS : ∀ b, S b → 6 ≤ b) : Env w' := h.keep (fun g hg => c.block g (by have := h.big; omega) (fun s => by have := hS g s; omega)) c.size
theorem Env.errs {w : World} (h : Env w) : Errs w := by
  obtain ⟨tp, p, e⟩ := h.syn
  unfold World.var? at e
  rw [gSyn] at e
  simp only [Option.bind_some] at e
  refine ⟨.iface tp p, ?_, .inr ⟨tp, p, rfl⟩⟩
  split at e
  · rename_i cs t fz hh
    simp only [Option.some.injEq] at e
    subst e
    simp [World.cell?, hh]
  · cases e
/-- bytes as numbers -/
def numsU (l : List UInt8) : List Int := l.map (fun b => (b.toNat : Int))
theorem numsU_str (l : List UInt8) : (⟨l.toArray⟩ : ByteArray) = strOfNums (numsU l) := by
  refine ByteArray.ext (Array.toList_inj.1 ?_)
  rw [strOfNums_data]
  unfold numsU
  rw [List.map_map]
  conv => lhs; rw [← List.map_id l]
  show List.map id l = _
  refine List.map_congr_left (fun b _ => ?_)
  simp
theorem numsU_data (l : List UInt8) : (strOfNums (numsU l)).data.toList = l := by
  rw [← numsU_str]
theorem numsU_byt (l : List UInt8) : Byt (numsU l) := fun x hx => by
  obtain ⟨b, _, rfl⟩ := List.mem_map.1 hx
  have := b.toNat_lt
  exact ⟨Int.natCast_nonneg _, by omega⟩
/-- a number's text -/
def numL (n : Int) : List Int := numsU (Lib.itoa n)
def decL (u : Nat) : List Int := numsU (Lib.decDigits u)
theorem dig_nat {d : Nat} (h : d < 10) : (UInt8.ofNat (48 + d)).toNat = 48 + d := by
  simp only [UInt8.toNat_ofNat']; omega
theorem uintM_dec {M : Nat} (hM : M ≤ 18446744073709551615) : ∀ (u : Nat), u ≤ M → ∀ r, Lib.parseUintM M 0 (Lib.decDigits u ++ r) = Lib.parseUintM M u r := fun u => by
  induction u using Nat.strongRecOn with
  | ind u ih =>
    intro hu r
    rw [Lib.decDigits]
    split
    · rename_i h
      rw [List.singleton_append, Lib.parseUintM, dig_nat h]
      rw [if_pos (by omega), if_neg (by omega), if_neg (by omega)]
      congr 1
      omega
    · rename_i h
      rw [List.append_assoc, ih (u / 10) (by omega) (by omega), List.singleton_append, Lib.parseUintM, dig_nat (d := u % 10) (by omega)]
      rw [if_pos (by omega), if_neg (by omega), if_neg (by omega)]
      congr 1
      omega
theorem dec_ne (u : Nat) : Lib.decDigits u ≠ [] := by
  rw [Lib.decDigits]
  split <;> simp
theorem uintB_dec {u : Nat} (h : u ≤ 18446744073709551615) : Lib.parseUintB 64 (Lib.decDigits u) = .ok u := by
  unfold Lib.parseUintB
  rw [if_neg (dec_ne u)]
  have := uintM_dec (M := 2 ^ 64 - 1) (by decide) u (by omega) []
  rw [List.append_nil] at this
  rw [this]
  rfl
theorem dec_dig (u : Nat) : ∀ b ∈ Lib.decDigits u, 48 ≤ b.toNat ∧ b.toNat ≤ 57 := by
  induction u using Nat.strongRecOn with
  | ind u ih =>
    intro b hb
    rw [Lib.decDigits] at hb
    split at hb
    · rename_i h
      simp only [List.mem_singleton] at hb
      rw [hb, dig_nat h]; omega
    · rename_i h
      rcases List.mem_append.1 hb with hb | hb
      · exact ih (u / 10) (by omega) b hb
      · simp only [List.mem_singleton] at hb
        rw [hb, dig_nat (d := u % 10) (by omega)]; omega
theorem intB_itoa {n : Int} (h0 : -9223372036854775808 ≤ n) (h1 : n ≤ 9223372036854775807) : Lib.parseIntB 64 (Lib.itoa n) = .ok n := by
  unfold Lib.itoa
  by_cases hn : n < 0
  · rw [if_pos hn]
    unfold Lib.parseIntB
    have e45 : (45 : UInt8).toNat = 45 := rfl
    simp only [e45]
    rw [if_pos (Or.inr trivial), uintB_dec (by omega)]
    simp only
    rw [if_neg (by simp), if_neg (by simp; omega)]
    simp only [if_true]
    congr 1
    omega
  · rw [if_neg hn]
    have hd := dec_dig n.toNat
    have hp := uintB_dec (u := n.toNat) (by omega)
    unfold Lib.parseIntB
    cases e : Lib.decDigits n.toNat with
    | nil => exact absurd e (dec_ne _)
    | cons c r =>
      have hc := hd c (by rw [e]; simp)
      simp only
      rw [if_neg (by omega), ← e, hp]
      simp only
      have n45 : ¬ c.toNat = 45 := by omega
      rw [if_neg (by simp [n45]; omega), if_neg (by simp [n45]), if_neg n45]
      congr 1
      omega
theorem itoa_no32 (n : Int) : ∀ x ∈ numL n, x ≠ 32 := fun x hx => by
  obtain ⟨b, hb, rfl⟩ := List.mem_map.1 hx
  unfold Lib.itoa at hb
  split at hb
  · rcases List.mem_cons.1 hb with e | e
    · rw [e]; decide
    · have := dec_dig _ b e; omega
  · have := dec_dig _ b hb; omega
/-- what stands ahead of the first blank, and the rest -/
def tw (r : List Int) : List Int := r.takeWhile (fun x => decide (x ≠ 32))
def dw (r : List Int) : List Int := r.dropWhile (fun x => decide (x ≠ 32))
theorem tw_dw (r : List Int) : tw r ++ dw r = r := List.takeWhile_append_dropWhile
theorem tw_app {a r : List Int} (h : ∀ x ∈ a, x ≠ 32) : tw (a ++ 32 :: r) = a ∧ dw (a ++ 32 :: r) = 32 :: r := by
  unfold tw dw
  induction a with
  | nil => simp
  | cons x a ih =>
    have hx := h x (by simp)
    have := ih (fun y hy => h y (by simp [hy]))
    simp [hx]
    simpa using this
theorem tw_all {a : List Int} (h : ∀ x ∈ a, x ≠ 32) : tw a = a ∧ dw a = [] := by
  unfold tw dw
  induction a with
  | nil => simp
  | cons x a ih =>
    have hx := h x (by simp)
    have := ih (fun y hy => h y (by simp [hy]))
    simp [hx]
    simpa using this
theorem idx_any : ∀ (r : List Int), Byt r → Lib.indexByte (r.map fun n => UInt8.ofNat n.toNat) ((32 : Int).toNat.toUInt8) = if dw r = [] then -1 else ((tw r).length : Int)
  | [], _ => by simp [Lib.indexByte, dw]
  | x :: r, h => by
    have ih := idx_any r (fun y hy => h y (by simp [hy]))
    have hx := h x (by simp)
    rw [List.map_cons, Lib.indexByte]
    by_cases e : x = 32
    · subst e
      have e1 : dw (32 :: r) = 32 :: r := by simp [dw]
      have e2 : tw (32 :: r) = [] := by simp [tw]
      rw [e1, e2]
      rfl
    · have e1 : dw (x :: r) = dw r := by simp [dw, e]
      have e2 : tw (x :: r) = x :: tw r := by simp [tw, e]
      have hb : (UInt8.ofNat x.toNat == (32 : Int).toNat.toUInt8) = false := by
        have : UInt8.ofNat x.toNat ≠ (32 : Int).toNat.toUInt8 := fun h' => e (u8_inj hx (by omega) h')
        simpa using this
      rw [hb, ih, e1, e2]
      by_cases hd : dw r = []
      · simp [hd]
      · rw [if_neg hd, if_neg hd]
        have : ¬ ((tw r).length : Int) = -1 := by omega
        simp [this]
end Go.Proofs.YtemmghneohnigaaDoor
namespace Go.Proofs.YtemmghneohnigaaDoor
open Go.RowKit
/-! The reader: upToBlank, number, id, literal. -/
theorem Byt.tw {r : List Int} (h : Byt r) : Byt (tw r) := by
  have := h
  rw [← tw_dw r] at this
  exact this.left
theorem Byt.dw {r : List Int} (h : Byt r) : Byt (dw r) := by
  have := h
  rw [← tw_dw r] at this
  exact this.right
set_option maxRecDepth 20000 in
theorem upto_any {w : World} {rb : Nat} {r : List Int} {f : Bool} (h : Rdr w rb r f) (hB : Byt r) (hl : r.length ≤ 281474976710656) :
    Calls Tryd.prog 34 #[.pointer (some ⟨rb, 0, none⟩)] w fun e w' => e = .returned (.string (strOfNums (tw r))) ∧ Rdr w' rb (dw r) f ∧ Chg w w' (fun b => b = rb) := by
  obtain ⟨c0, c1, fz, _⟩ := h.cells
  have f0 := fz 0
  have hsz : (strOfNums r).size = r.length := strOfNums_size r
  have hx := idx_any r hB
  have HX := hidd (fun w => Tryd.strings_IndexByte (strOfNums r) 32 w)
  rw [strOfNums_data, hx] at HX
  have HR := hidd (h.rest (dw r))
  have HG := hidd (Chg.of_set w rb 0 (.string (strOfNums (dw r))))
  have hcat := congrArg List.length (tw_dw r)
  rw [List.length_append] at hcat
  have hall := tw_dw r
  have x1 := str_ext r 0 (tw r).length
  have x2 := str_ext r (tw r).length r.length
  have e1 : (r.take (tw r).length).drop 0 = tw r := by
    rw [List.drop_zero]
    have : (tw r ++ dw r).take (tw r).length = tw r := by simp
    rwa [tw_dw] at this
  have e2 : (r.take r.length).drop (tw r).length = dw r := by
    rw [List.take_length]
    have : (tw r ++ dw r).drop (tw r).length = dw r := by simp
    rwa [tw_dw] at this
  rw [e1] at x1
  rw [e2] at x2
  clear h fz hx e1 e2 hall
  obtain ⟨n, en⟩ : ∃ n, n = r.length := ⟨_, rfl⟩
  obtain ⟨m, em⟩ : ∃ m, m = (tw r).length := ⟨_, rfl⟩
  rw [← en] at hsz hcat x2 hl
  rw [← em] at hcat x1 x2 HX
  have hmn : m ≤ n := by omega
  by_cases hd : dw r = []
  · rw [if_pos hd] at HX
    have hmm : m = n := by rw [hd] at hcat; simpa using hcat
    subst hmm
    rw [hd] at HR HG ⊢
    rw [s0] at HR HG
    clear hd hcat en em hmn x2
    generalize strOfNums (tw r) = st at *
    generalize strOfNums r = s at *
    go_enter Tryd.func34, Tryd.ntmps34
    go_wp2_with (go_at_call 50; with_reducible refine (HX.out _).mono ?_; rintro e w1 ⟨rfl, hw1⟩; rw [hw1]; clear hw1)
    go_ret
    exact ⟨rfl, HR.out, HG.out⟩
  · rw [if_neg hd] at HX
    clear hd hcat en em
    have b0 : decide ((m : Int) < 0) = false := by simp
    generalize strOfNums (dw r) = sd at *
    generalize strOfNums (tw r) = st at *
    generalize strOfNums r = s at *
    go_enter Tryd.func34, Tryd.ntmps34
    go_wp2_with (go_at_call 50; with_reducible refine (HX.out _).mono ?_; rintro e w1 ⟨rfl, hw1⟩; rw [hw1]; clear hw1)
    go_ret
    exact ⟨rfl, HR.out, HG.out⟩
theorem below_bw (w : World) (t : ByteArray) : Below w.heap.size w (Lib.bytesWorld w 5 t) := Lib.bytesWorld_below _ _ _
theorem pint_ok {n : Int} (h0 : -9223372036854775808 ≤ n) (h1 : n ≤ 9223372036854775807) (w : World) :
    Calls Tryd.prog 53 #[.string (strOfNums (numL n)), .int .i64 10, .int .i64 64] w fun e w' => e = .returned (.tuple #[.int .i64 n, .nilIface]) ∧ Below w.heap.size w w' := by
  have hz : (strOfNums (numL n)).size ≤ 9223372036854775806 := by
    rw [strOfNums_size]
    unfold numL numsU
    have := Lib.itoa_length_le n h0 h1
    simp
    omega
  refine (Tryd.strconv_ParseInt_10_at64_ok (strOfNums (numL n)) hz n (by unfold numL; rw [numsU_data]; exact intB_itoa h0 h1) w).mono ?_
  rintro e w' ⟨rfl, rfl | ⟨t, rfl⟩⟩
  · exact ⟨rfl, Below.refl _ _⟩
  · exact ⟨rfl, below_bw _ _⟩
theorem below_gr (w : World) (k : Nat) (os : Array Obj) : Below w.heap.size w (Sort.grow (w.drewN k) os) :=
  ⟨rfl, rfl, rfl, by simp [Sort.grow], fun b hb => by simp [Sort.grow, Array.getElem?_append_left, hb]⟩
theorem fint_any {n : Int} (h0 : -9223372036854775808 ≤ n) (h1 : n ≤ 9223372036854775807) {w : World} (hE : Env w) :
    Calls Tryd.prog 54 #[.int .i64 n, .int .i64 10] w fun e w' => e = .returned (.string (strOfNums (numL n))) ∧ Below w.heap.size w w' := by
  refine (Tryd.strconv_FormatInt_10 n h0 h1 w hE.tab).mono ?_
  rintro e w' ⟨rfl, k, os, rfl⟩
  exact ⟨by rw [numsU_str]; rfl, below_gr _ _ _⟩
end Go.Proofs.YtemmghneohnigaaDoor
namespace Go.Proofs.YtemmghneohnigaaDoor
open Go.RowKit
/-! The reader: number, id, literal, where they go well. -/
set_option maxRecDepth 20000 in
set_option maxHeartbeats 1000000 in
theorem number_ok {w : World} {rb : Nat} {q : List Int} {f : Bool} {n : Int} (h : Rdr w rb (32 :: q) f) (hB : Byt q) (hl : q.length ≤ 281474976710656) (h6 : 6 ≤ rb) (hE : Env w) (h0 : -9223372036854775808 ≤ n) (h1 : n ≤ 9223372036854775807) (ht : tw q = numL n) :
    Calls Tryd.prog 36 #[.pointer (some ⟨rb, 0, none⟩)] w fun e w' => e = .returned (.int .i64 n) ∧ Rdr w' rb (dw q) f ∧ Chg w w' (fun b => b = rb) := by
  have H1 := hidd (blank_ok h hB)
  have H2 := hidd (fun (w1 : World) (h1 : Rdr w1 rb q f) => upto_any h1 hB hl)
  rw [ht] at H2
  have H3 := hidd (fun w => pint_ok h0 h1 w)
  have H4 := hidd (fun (w1 : World) (hE1 : Env w1) => fint_any h0 h1 hE1)
  have H5 := hidd (must_ok rb)
  have HE := hidd hE
  have he : ((strOfNums (numL n)).toList == (strOfNums (numL n)).toList) = true := by simp
  clear h hE ht
  generalize strOfNums (numL n) = s at *
  go_enter Tryd.func36, Tryd.ntmps36
  go_upto_region 2 with (go_at_call 52; with_reducible refine (H1.out).mono ?_; rintro e w1 ⟨rfl, r1, k1⟩)
  go_upto_region 3 with (go_at_call 34; with_reducible refine (H2.out _ r1).mono ?_; rintro e w2 ⟨rfl, r2, k2⟩)
  go_upto_region 4 with (go_at_call 53; with_reducible refine (H3.out _).mono ?_; rintro e w3 ⟨rfl, f3⟩)
  have k3 := (k1.trans k2 (fun _ _ h => h)).post f3
  have HE3 := hidd (HE.out.chg k3 (fun b hb => by rw [hb]; exact h6))
  have r3 := r2.fresh f3
  have R3 := hidd r3
  have K3 := hidd k3
  clear r1 r2 r3 k1 k2 k3 f3
  go_wp2_with (first | (go_at_call 54; with_reducible refine (H4.out _ HE3.out).mono ?_; rintro e w4 ⟨rfl, f4⟩) | (go_at_call 51; with_reducible refine (H5.out _).mono ?_; rintro e w5 ⟨rfl, hw5⟩; rw [hw5]; clear hw5))
  go_ret
  exact ⟨rfl, R3.out.fresh f4, K3.out.post f4⟩
set_option maxRecDepth 20000 in
theorem isid_any (n : Int) (w : World) : Calls Tryd.prog 30 #[.int .i64 n] w fun e w' => e = .returned (.bool (decide (0 ≤ n ∧ n ≤ 2147483647))) ∧ w' = w := by
  by_cases h0 : 0 ≤ n
  · have b0 : decide (0 ≤ n) = true := by simp [h0]
    have E : Hid (decide (0 ≤ n ∧ n ≤ 2147483647) = decide (n ≤ 2147483647)) := by show _ = _; simp [h0]
    go_enter Tryd.func30, Tryd.ntmps30
    go_wp2
    go_ret
    exact ⟨by first | exact ret_bool E.out.symm | rfl, rfl⟩
  · have b0 : decide (0 ≤ n) = false := by simp [h0]
    have E : Hid (decide (0 ≤ n ∧ n ≤ 2147483647) = false) := by show _ = _; simp [h0]
    go_enter Tryd.func30, Tryd.ntmps30
    go_wp2
    go_ret
    exact ⟨by first | exact ret_bool E.out.symm | rfl, rfl⟩
set_option maxRecDepth 20000 in
theorem id_ok {w : World} {rb : Nat} {q : List Int} {f : Bool} {n : Int} (h : Rdr w rb (32 :: q) f) (hB : Byt q) (hl : q.length ≤ 281474976710656) (h6 : 6 ≤ rb) (hE : Env w) (h0 : 0 ≤ n) (h1 : n ≤ 2147483647) (ht : tw q = numL n) :
    Calls Tryd.prog 35 #[.pointer (some ⟨rb, 0, none⟩)] w fun e w' => e = .returned (.int .i64 n) ∧ Rdr w' rb (dw q) f ∧ Chg w w' (fun b => b = rb) := by
  have H1 := hidd (number_ok h hB hl h6 hE (by omega) (by omega) ht)
  have H2 := hidd (isid_any n)
  have hd : decide (0 ≤ n ∧ n ≤ 2147483647) = true := by simp; omega
  rw [hd] at H2
  have H3 := hidd (must_ok rb)
  clear h hE ht hd
  go_enter Tryd.func35, Tryd.ntmps35
  go_wp2_with (first | (go_at_call 36; with_reducible refine (H1.out).mono ?_; rintro e w1 ⟨rfl, r1, k1⟩) | (go_at_call 30; with_reducible refine (H2.out _).mono ?_; rintro e w2 ⟨rfl, hw2⟩; rw [hw2]; clear hw2) | (go_at_call 51; with_reducible refine (H3.out _).mono ?_; rintro e w5 ⟨rfl, hw5⟩; rw [hw5]; clear hw5))
  go_ret
  exact ⟨rfl, r1, k1⟩
set_option maxRecDepth 20000 in
set_option maxHeartbeats 1000000 in
theorem lit_ok {w : World} {rb : Nat} {q b : List Int} {f : Bool} (h : Rdr w rb (32 :: q) f) (hB : Byt q) (hl : q.length ≤ 140737488351232) (h6 : 6 ≤ rb) (hE : Env w) (hb : UnqP q b) :
    Calls Tryd.prog 79 #[.pointer (some ⟨rb, 0, none⟩)] w fun e w' => ∃ ao cap, e = .returned (.slice ao b.length cap) ∧ Rdr w' rb (q.drop (lit b).length) f ∧ Own w' w.heap.size 5 1 (.slice ao b.length cap) b.length (byc b) ∧ Chg w w' (fun b => b = rb) := by
  have H1 := hidd (blank_ok h hB)
  have H2 := hidd (fun (w1 : World) (hE1 : Env w1) => unq_ok hB hl hb hE1.errs)
  have H5 := hidd (must_ok rb)
  have HE := hidd hE
  have hrb := h.cells.2.2.2
  have hle : (lit b).length ≤ q.length := hb.2.length_le
  have hsz : (strOfNums q).size = q.length := strOfNums_size q
  have x1 := str_ext q (lit b).length q.length
  rw [List.take_length] at x1
  clear h hE hb
  obtain ⟨n, en⟩ : ∃ n, n = q.length := ⟨_, rfl⟩
  rw [← en] at hsz x1 hle hl
  clear en
  obtain ⟨m, em⟩ : ∃ m, m = (lit b).length := ⟨_, rfl⟩
  rw [← em] at x1 hle H2 ⊢
  clear em
  generalize hs : strOfNums q = s at *
  have HS := hidd hs
  clear hs
  go_enter Tryd.func79, Tryd.ntmps79
  go_upto_region 2 with (go_at_call 52; with_reducible refine (H1.out).mono ?_; rintro e w1 ⟨rfl, r1, k1⟩)
  obtain ⟨c0, c1, fz, _⟩ := r1.cells
  rw [HS.out] at c0
  have HE1 := hidd (HE.out.chg k1 (fun b hb => by rw [hb]; exact h6))
  go_upto_region 3 with (go_at_call 10; with_reducible refine (H2.out _ HE1.out).mono ?_; rintro e w2 ⟨ao, cap, rfl, ho2, f2⟩)
  have r2 := r1.fresh f2
  obtain ⟨d0, d1, fz2, _⟩ := r2.cells
  rw [HS.out] at d0
  have e0 := fz2 0
  have HR := hidd (r2.rest (q.drop m))
  have HK := hidd (((k1.post f2)).trans (Chg.of_set w2 rb 0 (.string (strOfNums (q.drop m)))) (fun _ _ h => h))
  have HO : Hid (Own (w2.setCell ⟨rb, 0, none⟩ (.string (strOfNums (q.drop m)))) w.heap.size 5 1 (.slice ao b.length cap) b.length (byc b)) := by
    refine (ho2.chg (Chg.of_set w2 rb 0 _) (fun x hx e => ?_)).weaken k1.size
    have := (ho2.lt x hx).1
    have := k1.size
    omega
  clear r1 r2 k1 f2 ho2 c0 c1 fz fz2
  generalize strOfNums (q.drop m) = sd at *
  go_wp2_with (go_at_call 51; with_reducible refine (H5.out _).mono ?_; rintro e w5 ⟨rfl, hw5⟩; rw [hw5]; clear hw5)
  go_ret
  exact ⟨ao, cap, rfl, HR.out, HO.out, HK.out⟩
end Go.Proofs.YtemmghneohnigaaDoor
