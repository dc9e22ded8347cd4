import Derived.Test.YtlbmgknlbhakoaaTxF
import Derived.Test.YtlbmgknlbhakoaaTxG
import Derived.Test.YtlbmgknlbhakoaaVEq
namespace Go.Proofs.Ytlbmgknlbhakoaa
open Go.RowKit
/-! join, small, fixed. -/
/-- What join leaves. -/
structure JnP (w : World) (v : Value) (l : List Int) (v' : Value) (w' : World) : Prop where
  own : OwnB w' 0 v' l
  blk : ∀ b, v'.ownBlock = some b → v.ownBlock = some b ∨ w.heap.size ≤ b
  chg : Chg w w' (fun b => v.ownBlock = some b)
set_option maxRecDepth 100000 in
set_option maxHeartbeats 2000000 in
theorem ljoin_any {w : World} {v : Value} {x y : List Int} {ao : Option Addr} {ca : Nat} (hv : OwnB w 0 v x) (hy : RdA w ao 1 y.length ca (fun j => .int .u8 (y.getD j 0))) (hoff : ∀ b off, ao = some ⟨b, off, none⟩ → v.ownBlock ≠ some b) (hlen : x.length + y.length ≤ 1099511627776) :
    Calls Try.prog 17 #[v, .slice ao y.length ca] w fun e w' => ∃ v', e = .returned v' ∧ JnP w v (x ++ y) v' w' := by
  have HY : Hid (∀ wr, Chg w wr (fun b => v.ownBlock = some b) → RdA wr ao 1 y.length ca (fun j => .int .u8 (y.getD j 0))) := fun wr c => ⟨hy.le, hy.top, fun h0 => by
    obtain ⟨b, off, e, hcs⟩ := hy.at_ h0
    exact ⟨b, off, e, fun j hj => c.cell (hcs j hj) (hoff b off e)⟩⟩
  have HV := hidd hv
  obtain ⟨av, kv, ev, _⟩ := hv.rda
  have EV := hidd ev
  have hca := hy.le
  obtain ⟨n, en⟩ : ∃ n, n = y.length := ⟨_, rfl⟩
  have EN := hidd en
  rw [← en] at hlen HY hca ⊢
  rw [ev]
  clear hv hy hoff en ev
  go_enter Try.func17, Try.ntmps17
  go_wp2
  go_loopw [0, 5] (fun u i wr => ∃ k : Nat, k ≤ n ∧ i = .int .i64 k ∧ Hid (JnP w v (x ++ y.take k) u wr)) (fun _ i _ => n - (intOf i).toNat)
  case atStart => exact ⟨0, Nat.zero_le _, rfl, by show JnP _ _ _ _ _; rw [← EV.out]; exact ⟨by simpa using HV.out, fun _ h => .inl h, Chg.refl _ _⟩⟩
  case round =>
    obtain ⟨k, hk, rfl, HJ⟩ := hrel
    obtain ⟨au, ku, rfl, _⟩ := HJ.out.own.rda
    have hl : (x ++ y.take k).length = x.length + k := by rw [List.length_append, List.length_take, ← EN.out]; omega
    have HLN := hidd hl
    obtain ⟨z, ez⟩ : ∃ z, z = x ++ y.take k := ⟨_, rfl⟩
    rw [← ez] at HJ hl
    rw [← ez]
    by_cases hlt : k < n
    · obtain ⟨b1, o1, rfl, hcs⟩ := (HY.out wr HJ.out.chg).one (by omega)
      have c1 := hcs k hlt
      have ez2 : x ++ y.take (k + 1) = z ++ [y.getD k 0] := by
        rw [ez, List.append_assoc]
        congr 1
        rw [List.take_succ_eq_append_getElem (by have := EN.out; omega)]
        have : k < y.length := by have := EN.out; omega
        simp [List.getD_eq_getElem?_getD, this]
      have EZ2 := hidd ez2
      obtain ⟨c, ec⟩ : ∃ c, c = y.getD k 0 := ⟨_, rfl⟩
      rw [← ec] at c1 EZ2
      clear hcs ez ec ez2 HLN
      have HO1 : Hid (Own wr 0 5 1 (.slice au z.length ku) z.length (fun j => .int .u8 ((z ++ [c]).getD j 0))) := Own.congr HJ.out.own (fun j hj => by rw [getD_app_lo (by omega)])
      have HX : Hid (∀ t, (wr.alloc (.cells #[.int .u8 c] t)).cell? ⟨wr.heap.size, 0, none⟩ = some ((fun j => Value.int .u8 ((z ++ [c]).getD j 0)) z.length)) := fun t => by
        have : (fun j => Value.int .u8 ((z ++ [c]).getD j 0)) z.length = .int .u8 c := by simp [List.getD_eq_getElem?_getD]
        rw [this]; exact new_cell _ _ _
      obtain ⟨m, em⟩ : ∃ m, m = z.length := ⟨_, rfl⟩
      have EMM := hidd em
      have hbd : m < 1099511627776 := by omega
      rw [← em] at HO1 HX ⊢
      clear em hl
      go_wp2_with (at_builtin; refine wpList_app1 _ rfl _ _ 22 rfl 0 5 (.int .u8 0) 1 Try.underlying22 infoB rfl _ m (fun j => .int .u8 ((z ++ [c]).getD j 0)) rfl (HO1.out.kept (fresh_alloc _ _)) _ 1 rfl (HX.out _) rfl (by omega) (by omega) (Nat.zero_le _) ?_)
      intro v6 w6 hown6 happ
      have HJ6 : Hid (JnP w v (z ++ [c]) v6 w6) := by
        have hz := HJ.out.chg.size
        have cA := Chg.of_app happ
        rw [EMM.out] at hown6
        refine ⟨by unfold OwnB; rw [List.length_append]; exact hown6, fun b hb => ?_, ?_⟩
        · rcases happ.blk b hb with e | e
          · exact HJ.out.blk b (by rw [← e]; exact ownB_len _ _ _ _ _)
          · right; simp at e; omega
        · refine (HJ.out.chg.post (fresh_alloc _ _)).trans cA (fun b hb e => ?_)
          rcases HJ.out.blk b (by rw [← e]; exact ownB_len _ _ _ _ _) with e | e
          · exact e
          · omega
      obtain ⟨a6, k6, rfl, _⟩ := hown6.rd
      clear hown6 happ HO1 HX c1
      go_wp2
      go_roundw
      case rel => exact ⟨k + 1, by omega, by go_num, by show JnP _ _ _ _ _; rw [EZ2.out]; exact HJ6.out⟩
      case measure => simp [intOf]; omega
    · obtain rfl : k = n := by omega
      have EZ : Hid (z = x ++ y) := by show _ = _; rw [ez, EN.out, List.take_length]
      clear ez hl
      go_wp2
      go_ret
      have h9 := HJ.out
      rw [EZ.out, EV.out] at h9
      rw [EZ.out]
      exact ⟨_, rfl, h9⟩
theorem blk2 (w : World) (a b : Obj) : ((w.alloc a).alloc b).heap[w.heap.size + 1]? = some b := by
  rw [show w.heap.size + 1 = (w.alloc a).heap.size by simp]; exact Go.Deep.blk_alloc_new _ _
def smD : VD := ⟨7, 0, fun i => [97, 98, 99, 100, 226, 130, 172].getD i 0, fun _ => 0, fun _ => 0⟩
theorem smD_right : smD.Right := by
  refine ⟨⟨by simp [smD], by simp [smD], by simp [smD]⟩, ?_, ?_, ?_, ?_⟩
  · intro i hi k hk
    have hi : i < 7 := hi
    have : ∀ i, i < 7 → ∀ k, k < i → smD.B k ≠ smD.B i := by decide
    exact this i hi k hk
  all_goals (intro j hj; exact absurd hj (by simp [smD]))
theorem smD_byt : ∀ k, Byt (smD.pc k) := by
  intro k
  rw [VD.pc]
  split
  · exact byt_nil
  · split
    · rename_i h0 h
      have h : k ≤ 7 := h
      intro x hx
      simp at hx
      subst hx
      have : ∀ i, i < 7 → 0 ≤ smD.B i ∧ smD.B i ≤ 255 := by decide
      exact this (k - 1) (by omega)
    · split
      · rename_i h1 h2 h3
        have a1 : smD.pc (smD.P (k - smD.nb - 1)).toNat = [] := by rw [show (smD.P (k - smD.nb - 1)).toNat = 0 from rfl, VD.pc_zero]
        have a2 : smD.pc (smD.Q (k - smD.nb - 1)).toNat = [] := by rw [show (smD.Q (k - smD.nb - 1)).toNat = 0 from rfl, VD.pc_zero]
        rw [a1, a2]; exact byt_nil
      · exact byt_nil
set_option maxRecDepth 20000 in
set_option maxHeartbeats 4000000 in
theorem small_any (w : World) :
    Calls Try.prog 22 #[] w fun e w' => ∃ gb, e = .returned (.agg #[.slice (some ⟨gb, 0, none⟩) smD.nb 7, .slice none smD.np 0]) ∧ RdA w' (some ⟨gb, 0, none⟩) 1 smD.nb 7 (fun i => .int .u8 (smD.B i)) ∧ Below w.heap.size w w' := by
  go_enter Try.func22, Try.ntmps22
  go_wp2
  refine bodyPost_ret (v := .agg #[.slice (some ⟨w.heap.size + 1, 0, none⟩) 7 7, .slice none 0 0]) (by simp [results, Try.results22, go_sem]) rfl ?_
  refine ⟨w.heap.size + 1, rfl, ⟨Nat.le_refl _, by simp [maxLen], fun _ => ⟨_, _, rfl, fun j hj => ?_⟩⟩, fresh_trans (fresh_alloc _ _) (fresh_alloc _ _)⟩
  have hj : j < 7 := hj
  rw [Nat.zero_add, cell_of_row _ (w.heap.size + 1) j _ _ _ (blk2 _ _ _)]
  obtain rfl | rfl | rfl | rfl | rfl | rfl | rfl : j = 0 ∨ j = 1 ∨ j = 2 ∨ j = 3 ∨ j = 4 ∨ j = 5 ∨ j = 6 := by omega
  all_goals rfl
end Go.Proofs.Ytlbmgknlbhakoaa
