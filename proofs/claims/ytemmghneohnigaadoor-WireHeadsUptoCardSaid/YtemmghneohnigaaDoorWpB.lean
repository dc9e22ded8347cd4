import Derived.Test.YtemmghneohnigaaDoorWpA
namespace Go.Proofs.YtemmghneohnigaaDoor
open Go.RowKit
/-! The library's variables; numbers as data. -/
structure Env (w : World) : Prop where
  syn : ∃ tp p, w.var? Tryd.prog "strconv.ErrSyntax" = some #[.iface tp p]
  ran : ∃ tp p, w.var? Tryd.prog "strconv.ErrRange" = some #[.iface tp p]
  tab : Lib.TabIs Tryd.prog w "internal/strconv.uint64pow10" .u64 Lib.pow10Tab
  big : 6 ≤ w.heap.size
theorem gSyn : Tryd.prog.globalNamed "strconv.ErrSyntax" = some 0 := by kernel_rfl
theorem gRan : Tryd.prog.globalNamed "strconv.ErrRange" = some 1 := by kernel_rfl
theorem gTab : Tryd.prog.globalNamed "internal/strconv.uint64pow10" = some 3 := by kernel_rfl
theorem var_keep {w w' : World} {n : String} {g : Nat} (hg : Tryd.prog.globalNamed n = some g) (h : w'.heap[g]? = w.heap[g]?) : w'.var? Tryd.prog n = w.var? Tryd.prog n := by
  unfold World.var?
  rw [hg]
  simp only [Option.bind_some, h]
theorem Env.keep {w w' : World} (h : Env w) (k : ∀ g, g < 6 → w'.heap[g]? = w.heap[g]?) (hz : w.heap.size ≤ w'.heap.size) : Env w' := by
  refine ⟨?_, ?_, ?_, Nat.le_trans h.big hz⟩
  · rw [var_keep gSyn (k 0 (by omega))]; exact h.syn
  · rw [var_keep gRan (k 1 (by omega))]; exact h.ran
  · have := h.tab
    unfold Lib.TabIs at *
    rw [var_keep gTab (k 3 (by omega))]; exact this
theorem Env.fresh {w w' : World} (h : Env w) (f : Below w.heap.size w w') : Env w' := h.keep (fun g hg => f.block g (by have := h.big; omega)) f.size
theorem Env.chg {w w' : World} {S : Nat → Prop} (h : Env w) (c : Chg w w' S) (hS : ∀ b, S b → 6 ≤ b) : Env w' := h.keep (fun g hg => c.block g (by have := h.big; omega) (fun s => by have := hS g s; omega)) c.size
theorem Env.errs {w : World} (h : Env w) : Errs w := by
  obtain ⟨tp, p, e⟩ := h.syn
  unfold World.var? at e
  rw [gSyn] at e
  simp only [Option.bind_some] at e
  refine ⟨.iface tp p, ?_, .inr ⟨tp, p, rfl⟩⟩
  split at e
  · rename_i cs t fz hh
    simp only [Option.some.injEq] at e
    subst e
    simp [World.cell?, hh]
  · cases e
/-- bytes as numbers -/
def numsU (l : List UInt8) : List Int := l.map (fun b => (b.toNat : Int))
theorem numsU_str (l : List UInt8) : (⟨l.toArray⟩ : ByteArray) = strOfNums (numsU l) := by
  refine ByteArray.ext (Array.toList_inj.1 ?_)
  rw [strOfNums_data]
  unfold numsU
  rw [List.map_map]
  conv => lhs; rw [← List.map_id l]
  show List.map id l = _
  refine List.map_congr_left (fun b _ => ?_)
  simp
theorem numsU_data (l : List UInt8) : (strOfNums (numsU l)).data.toList = l := by
  rw [← numsU_str]
theorem numsU_byt (l : List UInt8) : Byt (numsU l) := fun x hx => by
  obtain ⟨b, _, rfl⟩ := List.mem_map.1 hx
  have := b.toNat_lt
  exact ⟨Int.natCast_nonneg _, by omega⟩
/-- a number's text -/
def numL (n : Int) : List Int := numsU (Lib.itoa n)
def decL (u : Nat) : List Int := numsU (Lib.decDigits u)
theorem dig_nat {d : Nat} (h : d < 10) : (UInt8.ofNat (48 + d)).toNat = 48 + d := by
  simp only [UInt8.toNat_ofNat']; omega
theorem uintM_dec {M : Nat} (hM : M ≤ 18446744073709551615) : ∀ (u : Nat), u ≤ M → ∀ r, Lib.parseUintM M 0 (Lib.decDigits u ++ r) = Lib.parseUintM M u r := fun u => by
  induction u using Nat.strongRecOn with
  | ind u ih =>
    intro hu r
    rw [Lib.decDigits]
    split
    · rename_i h
      rw [List.singleton_append, Lib.parseUintM, dig_nat h]
      rw [if_pos (by omega), if_neg (by omega), if_neg (by omega)]
      congr 1
      omega
    · rename_i h
      rw [List.append_assoc, ih (u / 10) (by omega) (by omega), List.singleton_append, Lib.parseUintM, dig_nat (d := u % 10) (by omega)]
      rw [if_pos (by omega), if_neg (by omega), if_neg (by omega)]
      congr 1
      omega
theorem dec_ne (u : Nat) : Lib.decDigits u ≠ [] := by
  rw [Lib.decDigits]
  split <;> simp
theorem uintB_dec {u : Nat} (h : u ≤ 18446744073709551615) : Lib.parseUintB 64 (Lib.decDigits u) = .ok u := by
  unfold Lib.parseUintB
  rw [if_neg (dec_ne u)]
  have := uintM_dec (M := 2 ^ 64 - 1) (by decide) u (by omega) []
  rw [List.append_nil] at this
  rw [this]
  rfl
theorem dec_dig (u : Nat) : ∀ b ∈ Lib.decDigits u, 48 ≤ b.toNat ∧ b.toNat ≤ 57 := by
  induction u using Nat.strongRecOn with
  | ind u ih =>
    intro b hb
    rw [Lib.decDigits] at hb
    split at hb
    · rename_i h
      simp only [List.mem_singleton] at hb
      rw [hb, dig_nat h]; omega
    · rename_i h
      rcases List.mem_append.1 hb with hb | hb
      · exact ih (u / 10) (by omega) b hb
      · simp only [List.mem_singleton] at hb
        rw [hb, dig_nat (d := u % 10) (by omega)]; omega
theorem intB_itoa {n : Int} (h0 : -9223372036854775808 ≤ n) (h1 : n ≤ 9223372036854775807) : Lib.parseIntB 64 (Lib.itoa n) = .ok n := by
  unfold Lib.itoa
  by_cases hn : n < 0
  · rw [if_pos hn]
    unfold Lib.parseIntB
    have e45 : (45 : UInt8).toNat = 45 := rfl
    simp only [e45]
    rw [if_pos (Or.inr trivial), uintB_dec (by omega)]
    simp only
    rw [if_neg (by simp), if_neg (by simp; omega)]
    simp only [if_true]
    congr 1
    omega
  · rw [if_neg hn]
    have hd := dec_dig n.toNat
    have hp := uintB_dec (u := n.toNat) (by omega)
    unfold Lib.parseIntB
    cases e : Lib.decDigits n.toNat with
    | nil => exact absurd e (dec_ne _)
    | cons c r =>
      have hc := hd c (by rw [e]; simp)
      simp only
      rw [if_neg (by omega), ← e, hp]
      simp only
      have n45 : ¬ c.toNat = 45 := by omega
      rw [if_neg (by simp [n45]; omega), if_neg (by simp [n45]), if_neg n45]
      congr 1
      omega
theorem itoa_no32 (n : Int) : ∀ x ∈ numL n, x ≠ 32 := fun x hx => by
  obtain ⟨b, hb, rfl⟩ := List.mem_map.1 hx
  unfold Lib.itoa at hb
  split at hb
  · rcases List.mem_cons.1 hb with e | e
    · rw [e]; decide
    · have := dec_dig _ b e; omega
  · have := dec_dig _ b hb; omega
/-- what stands ahead of the first blank, and the rest -/
def tw (r : List Int) : List Int := r.takeWhile (fun x => decide (x ≠ 32))
def dw (r : List Int) : List Int := r.dropWhile (fun x => decide (x ≠ 32))
theorem tw_dw (r : List Int) : tw r ++ dw r = r := List.takeWhile_append_dropWhile
theorem tw_app {a r : List Int} (h : ∀ x ∈ a, x ≠ 32) : tw (a ++ 32 :: r) = a ∧ dw (a ++ 32 :: r) = 32 :: r := by
  unfold tw dw
  induction a with
  | nil => simp
  | cons x a ih =>
    have hx := h x (by simp)
    have := ih (fun y hy => h y (by simp [hy]))
    simp [hx]
    simpa using this
theorem tw_all {a : List Int} (h : ∀ x ∈ a, x ≠ 32) : tw a = a ∧ dw a = [] := by
  unfold tw dw
  induction a with
  | nil => simp
  | cons x a ih =>
    have hx := h x (by simp)
    have := ih (fun y hy => h y (by simp [hy]))
    simp [hx]
    simpa using this
theorem idx_any : ∀ (r : List Int), Byt r → Lib.indexByte (r.map fun n => UInt8.ofNat n.toNat) ((32 : Int).toNat.toUInt8) = if dw r = [] then -1 else ((tw r).length : Int)
  | [], _ => by simp [Lib.indexByte, dw]
  | x :: r, h => by
    have ih := idx_any r (fun y hy => h y (by simp [hy]))
    have hx := h x (by simp)
    rw [List.map_cons, Lib.indexByte]
    by_cases e : x = 32
    · subst e
      have e1 : dw (32 :: r) = 32 :: r := by simp [dw]
      have e2 : tw (32 :: r) = [] := by simp [tw]
      rw [e1, e2]
      rfl
    · have e1 : dw (x :: r) = dw r := by simp [dw, e]
      have e2 : tw (x :: r) = x :: tw r := by simp [tw, e]
      have hb : (UInt8.ofNat x.toNat == (32 : Int).toNat.toUInt8) = false := by
        have : UInt8.ofNat x.toNat ≠ (32 : Int).toNat.toUInt8 := fun h' => e (u8_inj hx (by omega) h')
        simpa using this
      rw [hb, ih, e1, e2]
      by_cases hd : dw r = []
      · simp [hd]
      · rw [if_neg hd, if_neg hd]
        have : ¬ ((tw r).length : Int) = -1 := by omega
        simp [this]
end Go.Proofs.YtemmghneohnigaaDoor
