import Derived.Test.YtemmghneohnigaaDoorWqC
import Derived.Laws.RangeAny
import Derived.Laws.IdiomStrings
namespace Go.Proofs.YtemmghneohnigaaDoor
open Go.RowKit
/-! Strings as lists of numbers. -/
theorem Byt.app {a b : List Int} (ha : Byt a) (hb : Byt b) : Byt (a ++ b) := fun x hx => by
  rcases List.mem_append.1 hx with h | h
  · exact ha x h
  · exact hb x h
theorem Byt.left {a b : List Int} (h : Byt (a ++ b)) : Byt a := fun x hx => h x (List.mem_append_left _ hx)
theorem Byt.right {a b : List Int} (h : Byt (a ++ b)) : Byt b := fun x hx => h x (List.mem_append_right _ hx)
theorem Byt.take {a : List Int} (h : Byt a) (n : Nat) : Byt (a.take n) := fun x hx => h x (List.mem_of_mem_take hx)
theorem Byt.drop {a : List Int} (h : Byt a) (n : Nat) : Byt (a.drop n) := fun x hx => h x (List.mem_of_mem_drop hx)
theorem byt_nil : Byt [] := fun _ h => nomatch h
theorem byt_cons {x : Int} {r : List Int} (h0 : 0 ≤ x ∧ x ≤ 255) (h : Byt r) : Byt (x :: r) := fun y hy => by
  rcases List.mem_cons.1 hy with rfl | hy
  · exact h0
  · exact h y hy
theorem u8_inj {x y : Int} (hx : 0 ≤ x ∧ x ≤ 255) (hy : 0 ≤ y ∧ y ≤ 255) (h : UInt8.ofNat x.toNat = UInt8.ofNat y.toNat) : x = y := by
  have := congrArg UInt8.toNat h
  simp only [UInt8.toNat_ofNat'] at this
  omega
theorem map_inj : ∀ {a b : List Int}, Byt a → Byt b → a.map (fun n => UInt8.ofNat n.toNat) = b.map (fun n => UInt8.ofNat n.toNat) → a = b
  | [], [], _, _, _ => rfl
  | [], _ :: _, _, _, h => by simp at h
  | _ :: _, [], _, _, h => by simp at h
  | x :: a, y :: b, ha, hb, h => by
    simp only [List.map_cons, List.cons.injEq] at h
    rw [u8_inj (ha x (by simp)) (hb y (by simp)) h.1, map_inj (fun z hz => ha z (by simp [hz])) (fun z hz => hb z (by simp [hz])) h.2]
theorem str_eq {a b : List Int} (ha : Byt a) (hb : Byt b) : ((strOfNums a).toList == (strOfNums b).toList) = decide (a = b) := by
  rw [ByteArray.toList_eq, ByteArray.toList_eq, strOfNums_data, strOfNums_data]
  by_cases h : a = b
  · subst h; simp
  · have : ¬ (a.map (fun n => UInt8.ofNat n.toNat) = b.map (fun n => UInt8.ofNat n.toNat)) := fun e => h (map_inj ha hb e)
    simp [h, this]
theorem str_app (a b : List Int) : strOfNums a ++ strOfNums b = strOfNums (a ++ b) := by
  unfold strOfNums
  rw [ByteArray.mk_append_mk]
  simp
theorem str_at {l : List Int} (hl : Byt l) {k : Nat} (h : k < l.length) (h' : k < (strOfNums l).size) : ((strOfNums l)[k]'h').toNat = (l.getD k 0).toNat := by
  have hb := hl (l.getD k 0) (by rw [List.getD_eq_getElem?_getD, List.getElem?_eq_getElem h]; simp)
  have e : (strOfNums l)[k]'h' = UInt8.ofNat (l.getD k 0).toNat := by
    show (strOfNums l).data[k]'_ = _
    have e2 : (strOfNums l).data.toList[k]? = some (UInt8.ofNat (l.getD k 0).toNat) := by
      rw [strOfNums_data, List.getElem?_map, List.getElem?_eq_getElem h, List.getD_eq_getElem?_getD, List.getElem?_eq_getElem h]
      rfl
    have hk : k < (strOfNums l).data.toList.length := by rw [strOfNums_data]; simpa using h
    rw [List.getElem?_eq_getElem hk] at e2
    simpa using e2
  rw [e]
  simp only [UInt8.toNat_ofNat']
  omega
theorem str_ext (l : List Int) (a b : Nat) : (strOfNums l).extract a b = strOfNums ((l.take b).drop a) := by
  have h : ((strOfNums l).extract a b).data.toList = (strOfNums ((l.take b).drop a)).data.toList := by
    rw [strOfNums_data, ByteArray.data_extract, Array.toList_extract, strOfNums_data, List.extract_eq_take_drop]
    rw [← List.map_drop, ← List.map_take, List.drop_take]
  have h2 : ((strOfNums l).extract a b).data = (strOfNums ((l.take b).drop a)).data := Array.toList_inj.1 h
  exact ByteArray.ext h2
/-- a string's bytes as numbers -/
def bys (s : ByteArray) : List Int := s.data.toList.map (fun b => (b.toNat : Int))
theorem bys_len (s : ByteArray) : (bys s).length = s.size := by unfold bys; rw [List.length_map, Array.length_toList]; rfl
theorem bys_byt (s : ByteArray) : Byt (bys s) := fun x hx => by
  obtain ⟨b, _, rfl⟩ := List.mem_map.1 hx
  have := b.toNat_lt
  exact ⟨Int.natCast_nonneg _, by omega⟩
theorem bys_str (s : ByteArray) : strOfNums (bys s) = s := by
  have h : (strOfNums (bys s)).data.toList = s.data.toList := by
    rw [strOfNums_data]
    unfold bys
    rw [List.map_map]
    conv => rhs; rw [← List.map_id s.data.toList]
    congr 1
    funext b
    simp
  exact ByteArray.ext (Array.toList_inj.1 h)
theorem str_bys {l : List Int} (h : Byt l) : bys (strOfNums l) = l := by
  unfold bys
  rw [strOfNums_data, List.map_map]
  conv => rhs; rw [← List.map_id l]
  refine List.map_congr_left (fun x hx => ?_)
  have := h x hx
  simp only [Function.comp, UInt8.toNat_ofNat', id]
  omega
/-- a rune of one byte: its place is one on; a greater one is above 126 -/
theorem dec_low {s : ByteArray} {pos : Nat} (h : pos < s.size) (ha : (s[pos]'h).toNat < 128) : Utf8.decode s pos = ((s[pos]'h).toNat, 1) := decode_ascii s pos h ha
theorem dec_hi {s : ByteArray} {pos : Nat} (h : pos < s.size) (ha : 126 < (s[pos]'h).toNat) : 126 < (Utf8.decode s pos).1 ∧ 1 ≤ (Utf8.decode s pos).2 := by
  by_cases h8 : (s[pos]'h).toNat < 128
  · rw [decode_ascii s pos h h8]
    exact ⟨ha, Nat.le_refl _⟩
  · have := decode_high s pos h (by omega)
    omega
end Go.Proofs.YtemmghneohnigaaDoor
