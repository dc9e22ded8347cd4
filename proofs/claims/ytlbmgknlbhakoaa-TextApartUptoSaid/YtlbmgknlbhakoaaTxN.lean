import Derived.Test.YtlbmgknlbhakoaaTxM
namespace Go.Proofs.Ytlbmgknlbhakoaa
open Go.RowKit
/-! Which bytes are a rune's beginning. -/
def Byt (l : List Int) : Prop := ∀ x ∈ l, 0 ≤ x ∧ x ≤ 255
theorem Byt.app {a b : List Int} (ha : Byt a) (hb : Byt b) : Byt (a ++ b) := fun x hx => by
  rcases List.mem_append.1 hx with h | h
  · exact ha x h
  · exact hb x h
theorem Byt.left {a b : List Int} (h : Byt (a ++ b)) : Byt a := fun x hx => h x (List.mem_append_left _ hx)
theorem Byt.right {a b : List Int} (h : Byt (a ++ b)) : Byt b := fun x hx => h x (List.mem_append_right _ hx)
theorem Byt.take {a : List Int} (h : Byt a) (n : Nat) : Byt (a.take n) := fun x hx => h x (List.mem_of_mem_take hx)
theorem Byt.drop {a : List Int} (h : Byt a) (n : Nat) : Byt (a.drop n) := fun x hx => h x (List.mem_of_mem_drop hx)
theorem byt_nil : Byt [] := fun _ h => nomatch h
theorem str_get (l : List Int) (hl : Byt l) (k : Nat) (h : k < l.length) : ((strOfNums l).get! k).toNat = (l.getD k 0).toNat := by
  have e : (strOfNums l).get! k = UInt8.ofNat (l.getD k 0).toNat := by
    unfold strOfNums ByteArray.get!
    simp [List.getD_eq_getElem?_getD, h, getElem!_pos]
  have hb := hl (l.getD k 0) (by rw [List.getD_eq_getElem?_getD, List.getElem?_eq_getElem h]; simp)
  rw [e]
  simp only [UInt8.toNat_ofNat']
  omega
/-- how wide the first rune is, by its bytes -/
def widF (n a b c e : Nat) : Nat :=
  if a < 128 then 1
  else if a / 32 = 6 ∧ 1 < n ∧ b / 64 = 2 then (if 128 ≤ a % 32 * 64 + b % 64 then 2 else 1)
  else if a / 16 = 14 ∧ (1 < n ∧ b / 64 = 2) ∧ (2 < n ∧ c / 64 = 2) then (if 2048 ≤ a % 16 * 4096 + b % 64 * 64 + c % 64 ∧ (a % 16 * 4096 + b % 64 * 64 + c % 64 < 55296 ∨ (57344 ≤ a % 16 * 4096 + b % 64 * 64 + c % 64 ∧ a % 16 * 4096 + b % 64 * 64 + c % 64 ≤ 1114111)) then 3 else 1)
  else if a / 8 = 30 ∧ (1 < n ∧ b / 64 = 2) ∧ (2 < n ∧ c / 64 = 2) ∧ (3 < n ∧ e / 64 = 2) then (if 65536 ≤ a % 8 * 262144 + b % 64 * 4096 + c % 64 * 64 + e % 64 ∧ (a % 8 * 262144 + b % 64 * 4096 + c % 64 * 64 + e % 64 < 55296 ∨ (57344 ≤ a % 8 * 262144 + b % 64 * 4096 + c % 64 * 64 + e % 64 ∧ a % 8 * 262144 + b % 64 * 4096 + c % 64 * 64 + e % 64 ≤ 1114111)) then 4 else 1)
  else 1
theorem dec_wid (s : ByteArray) : (Utf8.decode s 0).2 = widF s.size (s.get! 0).toNat (s.get! 1).toNat (s.get! 2).toNat (s.get! 3).toNat := by
  unfold Utf8.decode widF
  simp only [Nat.zero_add, Utf8.valid, Bool.and_eq_true, beq_iff_eq, decide_eq_true_eq, Bool.or_eq_true]
  generalize (s.get! 0).toNat = a
  generalize (s.get! 1).toNat = b
  generalize (s.get! 2).toNat = c
  generalize (s.get! 3).toNat = e
  repeat' split
  all_goals first | rfl | omega
theorem wid_eq (l : List Int) (hl : Byt l) (h4 : 4 ≤ l.length) : wid l = widF l.length (l.getD 0 0).toNat (l.getD 1 0).toNat (l.getD 2 0).toNat (l.getD 3 0).toNat := by
  unfold wid
  rw [dec_wid, strOfNums_size, str_get l hl 0 (by omega), str_get l hl 1 (by omega), str_get l hl 2 (by omega), str_get l hl 3 (by omega)]
theorem widF_le (n a b c e : Nat) : widF n a b c e ≤ 4 := by
  unfold widF
  repeat' split
  all_goals omega
theorem widF_pos (n a b c e : Nat) : 1 ≤ widF n a b c e := by
  unfold widF
  repeat' split
  all_goals omega
theorem widF_2 {n a b c e : Nat} (hn : 4 ≤ n) : 1 < widF n a b c e ↔ (194 ≤ a ∧ a ≤ 223 ∧ b / 64 = 2) ∨ 2 < widF n a b c e := by
  unfold widF
  constructor
  · intro h
    (repeat' split at h) <;> (repeat' split) <;> omega
  · intro h
    (repeat' split at h) <;> (repeat' split) <;> omega
theorem widF_3 {n a b c e : Nat} (hn : 4 ≤ n) : 2 < widF n a b c e ↔ (224 ≤ a ∧ a ≤ 239 ∧ b / 64 = 2 ∧ c / 64 = 2 ∧ (a = 224 → 32 ≤ b % 64) ∧ (a = 237 → b % 64 ≤ 31)) ∨ 3 < widF n a b c e := by
  unfold widF
  constructor
  · intro h
    (repeat' split at h) <;> (repeat' split) <;> omega
  · intro h
    (repeat' split at h) <;> (repeat' split) <;> omega
theorem widF_4 {n a b c e : Nat} (hn : 4 ≤ n) : 3 < widF n a b c e ↔ 240 ≤ a ∧ a ≤ 244 ∧ b / 64 = 2 ∧ c / 64 = 2 ∧ e / 64 = 2 ∧ (a = 240 → 16 ≤ b % 64) ∧ (a = 244 → b % 64 ≤ 15) := by
  unfold widF
  constructor
  · intro h
    (repeat' split at h) <;> omega
  · intro h
    (repeat' split) <;> omega
/-- may y stand behind x -/
def sec (x y : Int) : Prop := 128 ≤ y ∧ y ≤ 191 ∧ (x = 224 → 160 ≤ y) ∧ (x = 237 → y ≤ 159) ∧ (x = 240 → 144 ≤ y) ∧ (x = 244 → y ≤ 143)
theorem runeB_one {x : Int} (hx : 0 ≤ x ∧ x ≤ 255) : runeB [x] = true ↔ 194 ≤ x ∧ x ≤ 244 := by
  have b1 : Byt [x, 128, 128, 128] := fun z hz => by simp at hz; rcases hz with rfl | rfl <;> omega
  have b2 : Byt [x, 191, 191, 191] := fun z hz => by simp at hz; rcases hz with rfl | rfl <;> omega
  unfold runeB
  simp only [List.cons_append, List.nil_append, Bool.or_eq_true, decide_eq_true_eq, List.length_cons, List.length_nil]
  rw [wid_eq _ b1 (by simp), wid_eq _ b2 (by simp)]
  simp only [List.getD_cons_zero, List.getD_cons_succ]
  obtain ⟨n, rfl⟩ : ∃ n : Nat, x = n := ⟨x.toNat, by omega⟩
  simp only [Int.toNat_natCast, show (128 : Int).toNat = 128 from rfl, show (191 : Int).toNat = 191 from rfl, Nat.zero_add]
  rw [widF_2 (by simp), widF_2 (by simp)]
  rw [widF_3 (by simp), widF_3 (by simp)]
  rw [widF_4 (by simp), widF_4 (by simp)]
  omega
theorem runeB_two {x y : Int} (hx : 0 ≤ x ∧ x ≤ 255) (hy : 0 ≤ y ∧ y ≤ 255) : runeB [x, y] = true ↔ 224 ≤ x ∧ x ≤ 244 ∧ sec x y := by
  have b1 : Byt [x, y, 128, 128, 128] := fun z hz => by simp at hz; rcases hz with rfl | rfl | rfl <;> omega
  have b2 : Byt [x, y, 191, 191, 191] := fun z hz => by simp at hz; rcases hz with rfl | rfl | rfl <;> omega
  unfold runeB sec
  simp only [List.cons_append, List.nil_append, Bool.or_eq_true, decide_eq_true_eq, List.length_cons, List.length_nil]
  rw [wid_eq _ b1 (by simp), wid_eq _ b2 (by simp)]
  simp only [List.getD_cons_zero, List.getD_cons_succ]
  obtain ⟨n, rfl⟩ : ∃ n : Nat, x = n := ⟨x.toNat, by omega⟩
  obtain ⟨m, rfl⟩ : ∃ n : Nat, y = n := ⟨y.toNat, by omega⟩
  simp only [Int.toNat_natCast, show (128 : Int).toNat = 128 from rfl, show (191 : Int).toNat = 191 from rfl, Nat.zero_add, Nat.reduceAdd]
  rw [widF_3 (by simp), widF_3 (by simp)]
  rw [widF_4 (by simp), widF_4 (by simp)]
  omega
theorem runeB_three {x y z : Int} (hx : 0 ≤ x ∧ x ≤ 255) (hy : 0 ≤ y ∧ y ≤ 255) (hz : 0 ≤ z ∧ z ≤ 255) : runeB [x, y, z] = true ↔ 240 ≤ x ∧ x ≤ 244 ∧ sec x y ∧ 128 ≤ z ∧ z ≤ 191 := by
  have b1 : Byt [x, y, z, 128, 128, 128] := fun z hz => by simp at hz; rcases hz with rfl | rfl | rfl | rfl <;> omega
  have b2 : Byt [x, y, z, 191, 191, 191] := fun z hz => by simp at hz; rcases hz with rfl | rfl | rfl | rfl <;> omega
  unfold runeB sec
  simp only [List.cons_append, List.nil_append, Bool.or_eq_true, decide_eq_true_eq, List.length_cons, List.length_nil]
  rw [wid_eq _ b1 (by simp), wid_eq _ b2 (by simp)]
  simp only [List.getD_cons_zero, List.getD_cons_succ]
  obtain ⟨n, rfl⟩ : ∃ n : Nat, x = n := ⟨x.toNat, by omega⟩
  obtain ⟨m, rfl⟩ : ∃ n : Nat, y = n := ⟨y.toNat, by omega⟩
  obtain ⟨k, rfl⟩ : ∃ n : Nat, z = n := ⟨z.toNat, by omega⟩
  simp only [Int.toNat_natCast, show (128 : Int).toNat = 128 from rfl, show (191 : Int).toNat = 191 from rfl, Nat.zero_add, Nat.reduceAdd]
  rw [widF_4 (by simp), widF_4 (by simp)]
  omega
theorem runeB_len {p : List Int} (hp : Byt p) (h : runeB p = true) : p.length ≤ 3 := by
  unfold runeB at h
  simp only [Bool.or_eq_true, decide_eq_true_eq] at h
  by_cases hl : 1 ≤ p.length
  · have b1 : Byt (p ++ [128, 128, 128]) := hp.app (fun z hz => by simp at hz; omega)
    have b2 : Byt (p ++ [191, 191, 191]) := hp.app (fun z hz => by simp at hz; omega)
    rw [wid_eq _ b1 (by simp; omega), wid_eq _ b2 (by simp; omega)] at h
    have := widF_le (p ++ [128, 128, 128]).length ((p ++ [128, 128, 128]).getD 0 0).toNat ((p ++ [128, 128, 128]).getD 1 0).toNat ((p ++ [128, 128, 128]).getD 2 0).toNat ((p ++ [128, 128, 128]).getD 3 0).toNat
    have := widF_le (p ++ [191, 191, 191]).length ((p ++ [191, 191, 191]).getD 0 0).toNat ((p ++ [191, 191, 191]).getD 1 0).toNat ((p ++ [191, 191, 191]).getD 2 0).toNat ((p ++ [191, 191, 191]).getD 3 0).toNat
    omega
  · omega
/-- A beginning of a rune's beginning is one. -/
theorem runeB_pre {a b : List Int} (h : Byt (a ++ b)) (ha : a ≠ []) (hr : runeB (a ++ b) = true) : runeB a = true := by
  have hl := runeB_len h hr
  match a, b, h, ha, hr, hl with
  | x :: [], [], h, _, hr, _ => simpa using hr
  | x :: [], y :: [], h, _, hr, _ =>
    have hx := h x (by simp); have hy := h y (by simp)
    have := (runeB_two hx hy).1 hr
    exact (runeB_one hx).2 ⟨by omega, by omega⟩
  | x :: [], y :: z :: [], h, _, hr, _ =>
    have hx := h x (by simp); have hy := h y (by simp); have hz := h z (by simp)
    have := (runeB_three hx hy hz).1 hr
    exact (runeB_one hx).2 ⟨by omega, by omega⟩
  | x :: y :: [], [], h, _, hr, _ => simpa using hr
  | x :: y :: [], z :: [], h, _, hr, _ =>
    have hx := h x (by simp); have hy := h y (by simp); have hz := h z (by simp)
    have := (runeB_three hx hy hz).1 hr
    exact (runeB_two hx hy).2 ⟨by omega, by omega, this.2.2.1⟩
  | x :: y :: z :: [], [], h, _, hr, _ => simpa using hr
  | x :: [], _ :: _ :: _ :: _, _, _, _, hl => exact absurd hl (by simp only [List.length_append, List.length_cons]; omega)
  | x :: y :: [], _ :: _ :: _, _, _, _, hl => exact absurd hl (by simp only [List.length_append, List.length_cons]; omega)
  | x :: y :: z :: [], _ :: _, _, _, _, hl => exact absurd hl (by simp only [List.length_append, List.length_cons]; omega)
  | x :: y :: z :: u :: r, _, _, _, _, hl => exact absurd hl (by simp only [List.length_append, List.length_cons]; omega)
end Go.Proofs.Ytlbmgknlbhakoaa
