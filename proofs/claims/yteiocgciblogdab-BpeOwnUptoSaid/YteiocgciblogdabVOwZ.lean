import Derived.Test.YteiocgciblogdabVOwA
import Derived.Test.YteiocgciblogdabVInt
import Derived.Lib.AppendZeros
import Derived.Laws.OwnMore
namespace Go.Proofs.Yteiocgciblogdab
open Go.RowKit
/-! append(list, make([]int, 64)...). -/
def zs64 : List Value := List.replicate 64 (.int .i64 0)
theorem zs64_cells : (Builtin.zeroCells (Value.cells (.int .i64 0)) 64) = zs64.toArray := by kernel_rfl
theorem room_zeros {P : Program} (w : World) (t tn ty e : TypeId) (i : TypeInfo) (ht : P.underlying t = some (.slice e)) (htn : P.underlying tn = some (.int .i64)) (hi : P.info? e = some i) (hz : i.zero = some (.int .i64 0)) (hs : i.size = 1) (hb : i.bytes = 8)
    (g sLen sCap : Nat) (cur : Array Value) (hg : w.heap[g]? = some (.cells cur e (0, 0))) (hroom : sLen + 64 ≤ sCap) (hfit : sLen + 64 ≤ cur.size) :
    (Builtin.append_ #[t, tn] ty #[.slice (some ⟨g, 0, none⟩) sLen sCap, .int .i64 64]).run P w = .ok (.slice (some ⟨g, 0, none⟩) (sLen + 64) sCap) (w.setRow g (cur.toList.take sLen ++ zs64 ++ cur.toList.drop (sLen + 64)).toArray) := by
  have hst := run_storeCells_at P g sLen e zs64 0 cur w hg (by simpa [zs64] using hfit) (by intro u hu; rw [List.eq_of_mem_replicate hu]; rfl)
  simp only [Nat.add_zero] at hst
  have hl : zs64.length = 64 := by simp [zs64]
  rw [hl] at hst
  have hw : IntKind.i64.wrap (64 : Int) = 64 := by decide
  simp [Builtin.append_, run_underlying ht, run_underlying htn, sizeOf, typeInfo, zeroValue, hi, hz, hs, hb, asInt, asIntOf, hw, hroom, Addr.add_lit, zs64_cells, hst]
theorem grow_zeros {P : Program} (w : World) (t tn ty e : TypeId) (i : TypeInfo) (ht : P.underlying t = some (.slice e)) (htn : P.underlying tn = some (.int .i64)) (hi : P.info? e = some i) (hz : i.zero = some (.int .i64 0)) (hs : i.size = 1) (hb : i.bytes = 8)
    (b : Option Addr) (sLen sCap : Nat) (olds : List Value) (hn0 : b = none → sLen = 0) (hlo : olds.length = sLen) (holds : ∀ a, b = some a → ∀ j v, olds[j]? = some v → w.cell? (a.add j) = some v)
    (hg : sCap < sLen + 64) (hm : sLen ≤ 1073741824) :
    (Builtin.append_ #[t, tn] ty #[.slice b sLen sCap, .int .i64 64]).run P w = .ok (.slice (some ⟨w.heap.size, 0, none⟩) (sLen + 64) (grownCap w (sLen + 64) sCap e))
        (w.drew.alloc (.cells (olds.toArray ++ zs64.toArray ++ Builtin.zeroCells (Value.cells (.int .i64 0)) (grownCap w (sLen + 64) sCap e - (sLen + 64))) e)) := by
  have hn : ¬ (sLen + 64 ≤ sCap) := by omega
  have h63' : ¬ (9223372036854775807 < ((sLen : Int) + 64)) := by omega
  have h48 : Builtin.nextslicecap (sLen + 64) sCap * i.bytes ≤ 281474976710656 := growslice_fits (by omega) (by rw [hb]; omega)
  have h48' : ¬ (281474976710656 < Builtin.nextslicecap (sLen + 64) sCap * i.bytes) := by omega
  rw [hb] at h48'
  have hw : IntKind.i64.wrap (64 : Int) = 64 := by decide
  have hfo : (Builtin.firstCells 1 sLen (.slice b sLen sCap)).run P w.drew = .ok olds.toArray w.drew := by
    cases b with
    | none =>
      obtain rfl := hn0 rfl
      obtain rfl := List.eq_nil_of_length_eq_zero hlo
      simp [run_firstCells_none]
    | some a => exact run_firstCells_some (P := P) w.drew 1 sLen a sLen sCap olds (by simpa using hlo) (by simpa using holds a rfl)
  have hmx : max (64 : Int) 0 = 64 := by decide
  simp [Builtin.append_, run_underlying ht, run_underlying htn, sizeOf, typeInfo, zeroValue, hi, hz, hs, hb, asInt, asIntOf, hw, hn, hmx, h63', h48', Question.forced, hfo, newRow, grownCap, zs64_cells]
  congr 2
  apply Array.ext'
  simp [List.append_assoc]
theorem app_zeros {w : World} {base n : Nat} {v : Value} {cs : Nat → Value} (h : Own w base 3 1 v n cs) (hn : n ≤ 1073741824) (hbase : base ≤ w.heap.size) (ty : TypeId) :
    ∃ v' w', (Builtin.append_ #[28, 3] ty #[v, .int .i64 64]).run Try.prog w = .ok v' w' ∧ Own w' base 3 1 v' (n + 64) (fun j => if j < n then cs j else .int .i64 0) ∧ App w w' v v' := by
  obtain ⟨i, hi, hz0, hz1, hz2⟩ := info_parts infoI
  have key : ∀ (w' : World) (g cap : Nat) (cur : Array Value), w'.heap[g]? = some (.cells cur 3 (0, 0)) → base ≤ g → n + 64 ≤ cap → cap ≤ maxLen → cur.size = cap → cur.toList.take (n + 64) = ((List.range n).map cs) ++ zs64 → Own w' base 3 1 (.slice (some ⟨g, 0, none⟩) (n + 64) cap) (n + 64) (fun j => if j < n then cs j else .int .i64 0) := by
    intro w' g cap cur hg hb h1 h2 h3 h4
    refine ⟨by simp, .inr ⟨g, cap, cur, rfl, hb, hg, h1, h2, by omega, ?_⟩⟩
    rw [Nat.mul_one, h4]
    apply List.ext_getElem?
    intro j
    by_cases hj : j < n
    · rw [List.getElem?_append_left (by simpa using hj)]
      simp [hj, show j < n + 64 by omega]
    · by_cases hj2 : j < n + 64
      · have e1 : zs64[j - ((List.range n).map cs).length]? = some (.int .i64 0) := by
          simp only [zs64, List.getElem?_replicate]
          rw [if_pos (by simp; omega)]
        rw [List.getElem?_append_right (by simp; omega), e1]
        simp [hj, hj2]
      · rw [List.getElem?_eq_none (by simp [zs64]; omega), List.getElem?_eq_none (by simp; omega)]
  have grown : ∀ (old : Nat), old < n + 64 → ∀ (row : Option Nat), Own (w.drew.alloc (.cells (((List.range n).map cs).toArray ++ zs64.toArray ++ Builtin.zeroCells (Value.cells (.int .i64 0)) (grownCap w (n + 64) old 3 - (n + 64))) 3)) base 3 1 (.slice (some ⟨w.heap.size, 0, none⟩) (n + 64) (grownCap w (n + 64) old 3)) (n + 64) (fun j => if j < n then cs j else .int .i64 0) ∧
      w.grownBy (w.drew.alloc (.cells (((List.range n).map cs).toArray ++ zs64.toArray ++ Builtin.zeroCells (Value.cells (.int .i64 0)) (grownCap w (n + 64) old 3 - (n + 64))) 3)) row := by
    intro old ho row
    have hge := grownCap_ge w (n + 64) old 3
    have hcm : grownCap w (n + 64) old 3 ≤ maxLen := grownCap_le_maxLen w (n + 64) old 3 (by unfold maxLen; omega)
    refine ⟨key _ _ _ _ (heap_alloc_new w.drew _) hbase hge hcm ?_ ?_, ⟨rfl, rfl, rfl, by simp, fun k hk _ => heap_alloc_old w.drew _ hk⟩⟩
    · simp only [Array.size_append, List.size_toArray, size_zeroCells, List.length_map, List.length_range, zs64, List.length_replicate]
      have : (Value.cells (.int .i64 0)).size = 1 := rfl
      rw [this]
      omega
    · simp only [Array.toList_append]
      have hl : (((List.range n).map cs) ++ zs64).length = n + 64 := by simp [zs64]
      rw [← hl]
      exact List.take_left
  rcases h.2 with ⟨rfl, rfl⟩ | ⟨g, cap, cur, rfl, hbg, hg, hnc, hcm, hcs, htake⟩
  · have hr := grow_zeros (P := Try.prog) w 28 3 ty 3 i Try.underlying28 Try.underlying3 hi hz0 hz1 hz2 none 0 0 [] (fun _ => rfl) rfl (fun a e => by cases e) (by omega) (by omega)
    have hg2 := grown 0 (by omega) (Value.ownBlock (.slice none 0 0))
    exact ⟨_, _, hr, hg2.1, ⟨hg2.2, fun k hk => .inr (by simp [Value.ownBlock] at hk; omega)⟩⟩
  · by_cases hroom : n + 64 ≤ cap
    · have hr := room_zeros (P := Try.prog) w 28 3 ty 3 i Try.underlying28 Try.underlying3 hi hz0 hz1 hz2 g n cap cur hg hroom (by omega)
      have ho := key (w.setRow g (cur.toList.take n ++ zs64 ++ cur.toList.drop (n + 64)).toArray) g cap _ (setRow_heap w g cur _ 3 _ hg) hbg hroom hcm (by simp [zs64]; omega) (by
        have ht : cur.toList.take n = (List.range n).map cs := by simpa using htake
        rw [ht]
        have hl : (((List.range n).map cs) ++ zs64).length = n + 64 := by simp [zs64]
        rw [← hl]
        exact List.take_left)
      exact ⟨_, _, hr, ho, ⟨⟨rfl, rfl, rfl, by simp, fun k _ hk => setRow_other w g k _ (fun e => hk (by simp [Value.ownBlock, e]))⟩, fun k hk => .inl hk⟩⟩
    · have hr := grow_zeros (P := Try.prog) w 28 3 ty 3 i Try.underlying28 Try.underlying3 hi hz0 hz1 hz2 (some ⟨g, 0, none⟩) n cap ((List.range n).map cs) (fun e => by cases e) (by simp) (fun a e => by
        cases e
        have := h.cells (g := g) rfl
        simpa using this) (by omega) hn
      have hg2 := grown cap (by omega) (Value.ownBlock (.slice (some ⟨g, 0, none⟩) n cap))
      exact ⟨_, _, hr, hg2.1, ⟨hg2.2, fun k hk => .inr (by simp [Value.ownBlock] at hk; omega)⟩⟩
end Go.Proofs.Yteiocgciblogdab
