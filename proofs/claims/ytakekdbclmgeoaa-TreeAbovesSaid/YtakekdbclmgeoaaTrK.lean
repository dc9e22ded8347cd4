import Derived.Test.YtakekdbclmgeoaaTrJ
import Derived.Test.YtakekdbclmgeoaaNgO
namespace Go.Proofs.Ytakekdbclmgeoaa
open Go.RowKit
/-! The reference's Above. -/
def sm : List Nat → Nat
  | [] => 0
  | x :: r => 2 ^ x + sm r
theorem sm_app (A : List Nat) (x : Nat) : sm (A ++ [x]) = sm A + 2 ^ x := by
  induction A with
  | nil => simp [sm]
  | cons a r ih => simp only [List.cons_append, sm, ih]; omega
theorem sm_take {L : List Nat} {k : Nat} (h : k < L.length) : sm (L.take (k + 1)) = sm (L.take k) + 2 ^ (L.getD k 0) := by
  rw [List.take_succ_eq_append_getElem h, sm_app, List.getD_eq_getElem?_getD, List.getElem?_eq_getElem h]
  rfl
theorem sm_le (L : List Nat) : ∀ k, sm (L.take k) ≤ sm L := by
  induction L with
  | nil => intro k; simp
  | cons a r ih =>
    intro k
    cases k with
    | zero => simp [sm]
    | succ k =>
      simp only [List.take_succ_cons, sm]
      have := ih k
      omega
theorem sm_wy {n : Nat} {P T D : Nat → Int} (h : okT n P T D) : ∀ i, i < n → sm (wy P i) = abv P i := by
  intro i
  induction i using Nat.strongRecOn with
  | ind i ih =>
    intro hi
    by_cases h0 : i = 0
    · subst h0
      rw [wy_zero, abv]
      rfl
    · obtain ⟨hp, he⟩ := wy_step h (by omega) hi
      obtain ⟨_, ha⟩ := abv_step h (by omega) hi
      rw [he, sm_app, ih _ hp (by omega), ha]
theorem add_shl {s x : Nat} (hx : x < 32) (hs : s < 4294967296) : IntKind.u64.wrap ((s : Int) + IntKind.u64.wrap (2 ^ x)) = ((s + 2 ^ x : Nat) : Int) := by
  have h2 : 2 ^ x < 2 ^ 32 := Nat.pow_lt_pow_right (by decide) hx
  rw [IntKind.wrap_u64, IntKind.wrap_u64, show ((2 : Int) ^ x) = ((2 ^ x : Nat) : Int) by simp]
  generalize 2 ^ x = y at h2 ⊢
  omega
set_option maxRecDepth 20000 in
set_option maxHeartbeats 1600000 in
theorem rabove_bad {w : World} {ao : Option Addr} {n cap : Nat} {P T D : Nat → Int} (h : RdA w ao 3 n cap (nds P T D)) (hk : ¬ okT n P T D) :
    Calls Try.prog 22 #[.slice ao n cap] w fun e w' => e = .returned (.tuple #[.slice none 0 0, .int .i64 140]) ∧ Below w.heap.size w w' := by
  have HCK := hidd (rcheck_any h)
  rw [erT_bad hk] at HCK
  clear h
  go_enter Try.func22, Try.ntmps22
  go_wp2_with (go_at_call 16; with_reducible refine HCK.out.mono ?_; rintro e w2 ⟨rfl, hb2⟩; have HB := hidd hb2; clear hb2)
  go_ret2
  exact ⟨rfl, HB.out⟩
set_option maxRecDepth 20000 in
set_option maxHeartbeats 1600000 in
theorem rabove_ok {w : World} {ao : Option Addr} {n cap : Nat} {P T D : Nat → Int} (h : RdA w ao 3 n cap (nds P T D)) (hk : okT n P T D) :
    Calls Try.prog 22 #[.slice ao n cap] w fun e w' => ∃ u c, e = .returned (.tuple #[.slice u n c, .int .i64 0]) ∧ RdA w' u 1 n c (bF P) ∧ Below w.heap.size w w' := by
  have HCK := hidd (rcheck_any h)
  rw [erT_ok hk] at HCK
  have h1 := hk.1
  have h2 := hk.2.1
  have HK := hidd hk
  have HH := hidd h
  clear h hk
  go_enter Try.func22, Try.ntmps22
  go_wp2_with (go_at_call 16; with_reducible refine HCK.out.mono ?_; rintro e w1 ⟨rfl, hb1⟩; have HB1 := hidd hb1; clear hb1 HCK)
  go_loopw [4, 5] (fun v vi wr => ∃ i : Nat, i ≤ n ∧ vi = .int .i64 i ∧ Hid (Own wr w.heap.size 52 1 v i (bF P)) ∧ Hid (Below w.heap.size w wr)) (fun _ vi _ => n - (intOf vi).toNat)
  case atStart => exact ⟨0, by omega, rfl, own_nil _ _ _ _ _, HB1⟩
  case round =>
    obtain ⟨i, hi1, rfl, HO, HB⟩ := hrel
    have hsz := HB.out.size
    by_cases hlt : i < n
    · have d1 : decide ((i : Int) < (n : Int)) = true := decide_eq_true (by omega)
      obtain ⟨L, HHL⟩ : ∃ L, Hid (L = wy P i) := ⟨_, rfl⟩
      have hLl : L.length ≤ 33 := by rw [HHL.out]; have := (wy_len HK.out i hlt).1; omega
      have HLx : Hid (∀ k, k < L.length → L.getD k 0 < 32) := fun k hk => by
        have hm : L.getD k 0 ∈ L := by
          rw [List.getD_eq_getElem?_getD, List.getElem?_eq_getElem hk]
          exact List.getElem_mem _
        rw [HHL.out] at hm
        have := (wy_len HK.out i hlt).2 _ hm
        rw [HHL.out]
        omega
      have HSM : Hid (sm L = abv P i) := by rw [HHL.out]; exact sm_wy HK.out i hlt
      have HS32 : Hid (∀ k, sm (L.take k) < 4294967296) := fun k => by have := sm_le L k; rw [HSM.out] at this; have := abv_32 HK.out hlt; omega
      obtain ⟨w5, HW5⟩ : ∃ w5, Hid (w5 = wr.alloc (.cells #[.int .u64 0] 52)) := ⟨_, rfl⟩
      obtain ⟨bb, HBB⟩ : ∃ bb, Hid (bb = wr.heap.size) := ⟨_, rfl⟩
      have HB5 : Hid (Below w.heap.size w w5) := by rw [HW5.out]; exact HB.out.alloc hsz _
      have HO5 : Hid (Own w5 w.heap.size 52 1 u4 i (bF P)) := by rw [HW5.out]; exact HO.out.kept (fresh_alloc _ _)
      have hs5 : w5.heap.size = bb + 1 := by rw [HW5.out, HBB.out]; simp
      have HR5 : Hid (w5.rowIs bb 52 1 (fun _ => .int .u64 0)) := by
        rw [HW5.out, HBB.out]
        exact ⟨_, Go.Deep.blk_alloc_new _ _, rfl, fun j hj => by obtain rfl : j = 0 := by omega
                                                                 rfl⟩
      have HOL : Hid (∀ b, u4.ownBlock = some b → b < bb) := fun b hb => by have := (HO.out.lt b hb).2; have := HBB.out; omega
      have HWY := hidd (way_any HK.out i hlt (HH.out.fresh HB5.out))
      rw [← HHL.out] at HWY
      go_wp2_with (go_at_call 33; rw [← HW5.out]; with_reducible refine HWY.out.mono ?_; rintro e w6 ⟨u6, c6, rfl, ho6, hb6⟩)
      rw [← HBB.out]
      have hs6 := hb6.size
      have HR6 : Hid (∃ F, w6.rowIs bb 52 1 F ∧ F 0 = .int .u64 ((sm (L.take 0) : Nat) : Int)) := ⟨_, HR5.out.of_block (hb6.block _ HR5.out.lt), rfl⟩
      have HO6 := hidd ho6
      have HL6 := hidd (HO5.out.kept hb6)
      have HB6 := hidd (HB5.out.trans (hb6.mono HB5.out.size))
      clear ho6 hb6 HWY HB5 HO5 HR5 HW5 HO HB
      go_loopw [8] (fun vk wq => ∃ k : Nat, k ≤ L.length ∧ vk = .int .i64 k ∧ Hid (∃ F, wq.rowIs bb 52 1 F ∧ F 0 = .int .u64 ((sm (L.take k) : Nat) : Int)) ∧ Hid (Chg w6 wq (fun b => b = bb))) (fun vk _ => L.length - (intOf vk).toNat)
      case atStart => exact ⟨0, by omega, rfl, HR6, Chg.refl _ _⟩
      case round =>
        obtain ⟨k, hk1, rfl, HR, HC⟩ := hrel
        obtain ⟨F, hrow, hF⟩ := HR.out
        have cz := hrow.cell (i := 0) (by omega)
        rw [hF] at cz
        have fz := hrow.frozen 0
        by_cases hkl : k < L.length
        · have g1 : decide ((k : Int) < (L.length : Int)) = true := decide_eq_true (by omega)
          have g2 : (k : Int) < (L.length : Int) := by omega
          have hx := HLx.out k hkl
          have hs := HS32.out k
          have HST := sm_take hkl
          have HOK := Own.chg HC.out HO6.out (fun b hb e => by have := (HO6.out.lt b hb).1; omega)
          obtain ⟨b1, o1, hu, hc1⟩ := (own_rda HOK).one (by omega)
          subst hu
          have c1 : wr.cell? ⟨b1, o1 + k, none⟩ = some (.int .i64 ((L.getD k 0 : Nat) : Int)) := hc1 k hkl
          obtain ⟨x, HX⟩ : ∃ x, Hid (x = L.getD k 0) := ⟨_, rfl⟩
          rw [← HX.out] at c1 hx HST
          obtain ⟨s, HS⟩ : ∃ s, Hid (s = sm (L.take k)) := ⟨_, rfl⟩
          rw [← HS.out] at cz hs HST
          obtain ⟨s', HS'⟩ : ∃ s', Hid (s' = s + 2 ^ x) := ⟨_, rfl⟩
          have m1 : IntKind.u64.wrap (x : Int) = (x : Int) := by rw [IntKind.wrap_u64]; omega
          have m2 : IntKind.u64.wrap ((s : Int) + IntKind.u64.wrap (2 ^ x)) = (s' : Int) := by rw [HS'.out]; exact add_shl hx hs
          have HNR : Hid (∃ F', (wr.setCell ⟨bb, 0, none⟩ (.int .u64 (s' : Int))).drew.rowIs bb 52 1 F' ∧ F' 0 = .int .u64 ((sm (L.take (k + 1)) : Nat) : Int)) := ⟨_, (hrow.set 0 _).of_block rfl, by rw [HST, ← HS'.out]; rfl⟩
          have HNC : Hid (Chg w6 (wr.setCell ⟨bb, 0, none⟩ (.int .u64 (s' : Int))).drew (fun b => b = bb)) := (HC.out.trans (Chg.of_set wr bb 0 _) (fun _ _ t => t)).post (Below.refl _ _).drew
          clear HST hrow hF HR HOK hc1
          go_wp2
          go_region
          go_wp2
          go_roundw
          case rel => exact ⟨k + 1, by omega, by go_num, HNR, HNC⟩
          case measure => simp [intOf]; omega
        · obtain rfl : k = L.length := by omega
          have g1 : decide ((L.length : Int) < (L.length : Int)) = false := decide_eq_false (by omega)
          rw [List.take_of_length_le (Nat.le_refl _), HSM.out] at cz
          have HL9 := hidd (Own.chg HC.out HL6.out (fun b hb e => by have := HOL.out b hb; omega))
          have HB9 := hidd (HC.out.below HB6.out HB6.out.size (fun b hb => by have := HBB.out; omega))
          have hs9 := HB9.out.size
          have HX : Hid (∀ (w0 : World) (t : TypeId), (w0.alloc (.cells #[.int .u64 ((abv P i : Nat) : Int)] t)).cell? ⟨w0.heap.size, 0, none⟩ = some (bF P i)) := fun w0 t => new_cell _ _ _
          have HONE : Hid ((bF P i).oneCell' = true) := by show _ = _; unfold bF; rfl
          obtain ⟨y, HY⟩ : ∃ y, Hid (y = ((abv P i : Nat) : Int)) := ⟨_, rfl⟩
          rw [← HY.out] at cz HX
          clear hrow hF HR
          go_wp2_with (at_builtin; refine wpList_app1 _ rfl _ _ 38 rfl w.heap.size 52 (.agg #[.int .u64 0]) 8 Try.underlying38 infoBt rfl _ i (bF P) rfl (HL9.out.kept (fresh_alloc _ _)) _ 1 rfl (HX.out _ _) HONE.out (by omega) (by omega) (by simp; omega) ?_)
          intro v' w9 hown' happ
          have HF9 := hidd (happ.below (HB9.out.alloc hs9 _) (HL9.out.kept (fresh_alloc _ _)) (Nat.le_refl _) (by simp; omega))
          have HO9 := hidd hown'
          clear happ hown'
          go_wp2
          go_roundw
          case rel => exact ⟨i + 1, by omega, by go_num, HO9, HF9⟩
          case measure => simp [intOf]; omega
    · obtain rfl : i = n := by omega
      obtain ⟨u, uc, rfl, hu⟩ := HO.out.rd
      have HU := hidd hu
      clear hu
      go_wp2
      go_ret2
      exact ⟨u, uc, rfl, HU.out, HB.out⟩
end Go.Proofs.Ytakekdbclmgeoaa
