import Derived.Test.YtaalinlggjimcaaDA
namespace Go.Proofs.Ytaalinlggjimcaa
open Go.RowKit
/-! The reference's cache in memory: the same list of known ones as the program's, each with all its tokens. -/
def tokF (S : Nat) (p : List (List Int)) (j : Nat) : Int := (p.getD (j / S) []).getD (j % S) 0
theorem tokF_pcL {t : Nat → Int} {S n j : Nat} (hS : 1 ≤ S ∧ S ≤ 16) (hj : j < n * S) : tokF S (pcL t S n) j = t j := by
  have hi : j / S < n := Nat.div_lt_of_lt_mul (by rw [Nat.mul_comm]; exact hj)
  have hr : j % S < S := Nat.mod_lt _ (by omega)
  unfold tokF
  rw [pcL_get _ _ hi, List.getD_eq_getElem?_getD, List.getElem?_map, List.getElem?_range (show j % S < 16 by omega)]
  simp only [Option.map_some, Option.getD_some]
  unfold cutI
  rw [show (j / S * 16 + j % S) / 16 = j / S by omega, show (j / S * 16 + j % S) % 16 = j % S by omega, if_pos hr]
  have := Nat.div_add_mod j S
  rw [Nat.mul_comm] at this
  rw [this]
/-- every known one is cut out of a text -/
def Cut (S : Nat) (L : List Nd) : Prop := ∀ x ∈ L, ∃ t, x.path = pcL t S x.path.length
theorem Cut.eq {S : Nat} {L : List Nd} (h : Cut S L) (hS : 1 ≤ S ∧ S ≤ 16) {x : Nd} (hx : x ∈ L) (t : Nat → Int) (q : Nat) : (x.path.length * S = q * S ∧ ∀ j, j < x.path.length * S → tokF S x.path j = t j) ↔ x.path = pcL t S q := by
  obtain ⟨t', e⟩ := h x hx
  refine ⟨fun ⟨h1, h2⟩ => ?_, fun h1 => ?_⟩
  · have hq : x.path.length = q := Nat.eq_of_mul_eq_mul_right (by omega) h1
    rw [e, hq, pcL_eq hS]
    intro j hj
    have := h2 j (by rw [hq]; exact hj)
    rw [e, hq, tokF_pcL hS hj] at this
    exact this
  · have hq : x.path.length = q := by rw [h1, pcL_len]
    refine ⟨by rw [hq], fun j hj => ?_⟩
    rw [h1, tokF_pcL hS (by rw [← hq]; exact hj)]
def nd0 : Nd := ⟨[], 0, 0, 0⟩
def ndAt (L : List Nd) (i : Nat) : Nd := L.getD i nd0
theorem ndAt_mem {L : List Nd} {i : Nat} (h : i < L.length) : ndAt L i ∈ L := by
  unfold ndAt
  rw [List.getD_eq_getElem?_getD, List.getElem?_eq_getElem h]
  exact List.getElem_mem _
theorem mem_ndAt {L : List Nd} {x : Nd} (h : x ∈ L) : ∃ i, i < L.length ∧ ndAt L i = x := by
  obtain ⟨i, hi⟩ := List.mem_iff_getElem?.1 h
  refine ⟨i, (List.getElem?_eq_some_iff.1 hi).1, ?_⟩
  unfold ndAt
  rw [List.getD_eq_getElem?_getD, hi]; rfl
def knc (L : List Nd) (S : Nat) (Ta : Nat → Option Addr) (Tc : Nat → Nat) : Nat → Value := fun j =>
  if j % 3 = 0 then .slice (Ta (j / 3)) ((ndAt L (j / 3)).path.length * S) (Tc (j / 3)) else if j % 3 = 1 then .int .i64 (ndAt L (j / 3)).blk else .int .i64 (ndAt L (j / 3)).used
def rc3 (a b c : Value) : Nat → Value := fun i => if i = 0 then a else if i = 1 then b else c
structure RcAt (w : World) (base D pg : Nat) (v : Value) (L : List Nd) (S N : Nat) (Ta : Nat → Option Addr) (Tc : Nat → Nat) : Prop where
  row : w.rowIs D 102 3 (rc3 (.pointer (some ⟨pg, 0, none⟩)) v (.int .i64 N))
  own : Own w base 106 3 v L.length (knc L S Ta Tc)
  tok : ∀ i, i < L.length → Own w base 3 1 (.slice (Ta i) ((ndAt L i).path.length * S) (Tc i)) ((ndAt L i).path.length * S) (fun j => .int .i64 (tokF S (ndAt L i).path j))
theorem RcAt.list {w : World} {base D pg : Nat} {v : Value} {L : List Nd} {S N : Nat} {Ta : Nat → Option Addr} {Tc : Nat → Nat} (h : RcAt w base D pg v L S N Ta Tc) : ∃ vo vc, v = .slice vo L.length vc ∧ w.cell? ⟨D, 1, none⟩ = some (.slice vo L.length vc) ∧ L.length ≤ 9223372036854775807 ∧ (0 < L.length → ∃ b off, vo = some ⟨b, off, none⟩ ∧ ∀ i, i < L.length → w.cell? ⟨b, off + i * 3, none⟩ = some (.slice (Ta i) ((ndAt L i).path.length * S) (Tc i)) ∧ w.cell? ⟨b, off + i * 3 + 1, none⟩ = some (.int .i64 (ndAt L i).blk) ∧ w.cell? ⟨b, off + i * 3 + 2, none⟩ = some (.int .i64 (ndAt L i).used)) := by
  obtain ⟨vo, vc, rfl, hr⟩ := h.own.rd
  refine ⟨vo, vc, rfl, h.row.cell (i := 1) (by decide), by have := hr.le; have := hr.top; unfold maxLen at this; omega, fun h0 => ?_⟩
  obtain ⟨b, off, rfl, hc⟩ := hr.at_ h0
  refine ⟨b, off, rfl, fun i hi => ⟨?_, ?_, ?_⟩⟩
  · rw [hc (i * 3) (by omega)]
    unfold knc
    rw [if_pos (by omega), show i * 3 / 3 = i by omega]
  · rw [show off + i * 3 + 1 = off + (i * 3 + 1) by omega, hc (i * 3 + 1) (by omega)]
    unfold knc
    rw [if_neg (by omega), if_pos (by omega), show (i * 3 + 1) / 3 = i by omega]
  · rw [show off + i * 3 + 2 = off + (i * 3 + 2) by omega, hc (i * 3 + 2) (by omega)]
    unfold knc
    rw [if_neg (by omega), if_neg (by omega), show (i * 3 + 2) / 3 = i by omega]
theorem RcAt.fresh {w w' : World} {base D pg : Nat} {v : Value} {L : List Nd} {S N : Nat} {Ta : Nat → Option Addr} {Tc : Nat → Nat} (h : RcAt w base D pg v L S N Ta Tc) (f : Below w.heap.size w w') : RcAt w' base D pg v L S N Ta Tc :=
  ⟨(Chg.of_below (fun _ => False) f).row h.row id, h.own.kept f, fun i hi => (h.tok i hi).kept f⟩
/-- where a beginning stands -/
def Stands (L : List Nd) (p : List (List Int)) (k : Int) : Prop := (k = -1 ∧ ∀ x ∈ L, x.path ≠ p) ∨ ∃ i : Nat, k = (i : Int) ∧ i < L.length ∧ (ndAt L i).path = p
set_option maxRecDepth 20000 in
set_option maxHeartbeats 1600000 in
theorem at_any {w : World} {base D pg : Nat} {v : Value} {L : List Nd} {S N : Nat} {Ta : Nat → Option Addr} {Tc : Nat → Nat} (h : RcAt w base D pg v L S N Ta Tc) (hc : Cut S L) (hS : 1 ≤ S ∧ S ≤ 16) {to : Option Addr} {q cap : Nat} {t : Nat → Int} (ht : RdA w to 1 (q * S) cap (fun j => .int .i64 (t j))) :
    Calls Try.prog 59 #[.pointer (some ⟨D, 0, none⟩), .slice to (q * S) cap] w fun e w' => (∃ k : Int, e = .returned (.int .i64 k) ∧ Stands L (pcL t S q) k) ∧ Below w.heap.size w w' := by
  obtain ⟨T, hT⟩ : ∃ T, T = q * S := ⟨_, rfl⟩
  rw [← hT] at ht ⊢
  obtain ⟨vo, vc, _, c1, hLl, hcs⟩ := h.list
  have HH := hidd h
  have HT := hidd hT
  clear h hT
  go_enter Try.func59, Try.ntmps59
  go_wp2
  go_loopw [5, 6] (fun vi _ wr => ∃ i : Nat, i ≤ L.length ∧ vi = .int .i64 (i : Int) ∧ Hid (∀ j, j < i → (ndAt L j).path ≠ pcL t S q) ∧ Below w.heap.size w wr) (fun vi _ _ => L.length - (intOf vi).toNat)
  case atStart => exact ⟨0, by omega, rfl, fun j hj => absurd hj (by omega), Below.refl _ _⟩
  case round =>
    obtain ⟨i, hi, rfl, HN, hf⟩ := hrel
    have d1 := fresh_cell hf c1
    by_cases hlt : i < L.length
    · obtain ⟨b, off, rfl, hcc⟩ := hcs (by omega)
      have d2 := fresh_cell hf (hcc i hlt).1
      obtain ⟨ao, ac, ea, hra⟩ := (HH.out.tok i hlt).rd
      injection ea with ea1 _ ea2
      rw [← ea1, ← ea2] at hra
      have HQ : ∀ r : Bool, (r = true ↔ (ndAt L i).path = pcL t S q) → Hid (Calls Try.prog 29 #[.slice (Ta i) ((ndAt L i).path.length * S) (Tc i), .slice to T cap] wr fun e w' => e = .returned (.bool r) ∧ Below wr.heap.size wr w') := fun r hr0 => by
        refine (eqInts_any (hra.fresh hf) (ht.fresh hf)).mono ?_
        rintro e w' ⟨⟨r', rfl, hr⟩, hf'⟩
        refine ⟨?_, hf'⟩
        rw [HT.out, hc.eq hS (ndAt_mem hlt) t q, ← hr0] at hr
        cases r <;> cases r' <;> simp_all
      have i0 : (0 : Int) ≤ (i : Int) := by omega
      have i1 : (i : Int) < (L.length : Int) := by omega
      clear hcc hra hi ea1 ea2
      by_cases hp : (ndAt L i).path = pcL t S q
      · have HQ1 := HQ true ⟨fun _ => hp, fun _ => rfl⟩
        have HP := hidd hp
        clear HQ hp
        generalize (ndAt L i).path.length * S = pl at d2 HQ1
        go_wp2_with (go_at_call 29; with_reducible refine HQ1.out.mono ?_; rintro e w5 ⟨rfl, f5⟩)
        go_ret
        exact ⟨⟨i, rfl, .inr ⟨i, rfl, hlt, HP.out⟩⟩, hf.trans (f5.mono hf.size)⟩
      · have HQ1 := HQ false ⟨fun e => (by cases e), fun e => absurd e hp⟩
        have HP := hidd hp
        clear HQ hp
        generalize (ndAt L i).path.length * S = pl at d2 HQ1
        go_wp2_with (go_at_call 29; with_reducible refine HQ1.out.mono ?_; rintro e w5 ⟨rfl, f5⟩)
        go_roundw
        case rel => exact ⟨i + 1, by omega, by go_num, fun j hj => (by
          by_cases e : j = i
          · rw [e]; exact HP.out
          · exact HN.out j (by omega)), hf.trans (f5.mono hf.size)⟩
        case measure => simp [intOf]; omega
    · obtain rfl : i = L.length := by omega
      go_wp2
      go_ret
      refine ⟨⟨-1, rfl, .inl ⟨rfl, fun x hx => ?_⟩⟩, hf⟩
      obtain ⟨j, hj, rfl⟩ := mem_ndAt hx
      exact HN.out j hj
end Go.Proofs.Ytaalinlggjimcaa
