import Derived.Test.YtknfddakpfkcfaaJdV
namespace Go.Proofs.Ytknfddakpfkcfaa
open Go.RowKit Go.Shelf Go.Sort
/-! over. -/
set_option maxRecDepth 20000 in
set_option maxHeartbeats 1600000 in
theorem over_any {w : World} {base n c : Nat} {u : Option Addr} {cs : Nat → Value} {mark : Int} (h : Own w base 3 1 (.slice u n c) n cs) (hn : n ≤ 1048576) (hb : base ≤ w.heap.size) :
    Calls Try.prog 28 #[.slice u n c, .int .i64 mark] w fun e w' => e = .returned (.tuple #[]) ∧ Chg w w' (fun b => (Value.slice u n c).ownBlock = some b) := by
  have HO := hidd h
  clear h
  go_enter Try.func28, Try.ntmps28
  go_wp2
  go_loopw [4] (fun i wr => ∃ k : Nat, k ≤ n ∧ i = .int .i64 (k : Int) ∧ ∃ cs' : Nat → Value, Hid (Own wr base 3 1 (.slice u n c) n cs') ∧ Hid (Chg w wr (fun b => (Value.slice u n c).ownBlock = some b))) (fun i _ => n - (intOf i).toNat)
  case atStart => exact ⟨0, by omega, rfl, cs, HO, Chg.refl _ _⟩
  case round =>
    clear HO
    obtain ⟨k, hk, rfl, f', HO, HC⟩ := hrel
    by_cases hlt : k < n
    · obtain ⟨g, rfl, _, _⟩ := own_blk HO.out (by omega)
      obtain ⟨b1, o1, e1, h1⟩ := (own_rda HO.out).one (by omega)
      cases e1
      have x1 := h1 k (by omega)
      simp only [Nat.zero_add] at x1
      have fz := own_fz HO.out
      have k0 : (0 : Int) ≤ (k : Int) := by omega
      have k1 : (k : Int) < (n : Int) := by omega
      have HP := hidd (HO.out.put k (.int .i64 mark))
      have HC2 : Hid (Chg w (wr.setCell ⟨g, k, none⟩ (.int .i64 mark)) (fun b => (Value.slice (some ⟨g, 0, none⟩) n c).ownBlock = some b)) := HC.out.trans (Chg.of_set wr g k (.int .i64 mark)) (fun b _ e => by rw [e]; rfl)
      clear h1 HC HO
      go_wp2
      go_roundw
      case rel => exact ⟨k + 1, by omega, by go_num, _, HP, HC2⟩
      case measure => simp [intOf]; omega
    · obtain rfl : k = n := by omega
      have HO0 := HO
      have HC0 := HC
      clear HO HC
      have hw := HC0.out.size
      rename World => wA
      go_wp2
      go_loopw [5, 6] (fun v i wr => ∃ q : Nat, q ≤ 64 ∧ i = .int .i64 (q : Int) ∧ ∃ cs' : Nat → Value, Hid (Own wr base 3 1 v (k + q) cs') ∧ Hid (Chg w wr (fun b => (Value.slice u k c).ownBlock = some b)) ∧ Hid (∀ b, v.ownBlock = some b → (Value.slice u k c).ownBlock = some b ∨ w.heap.size ≤ b)) (fun _ i _ => 64 - (intOf i).toNat)
      case atStart => exact ⟨0, by omega, rfl, f', HO0, HC0, fun b hb => .inl hb⟩
      case round =>
        clear HO0 HC0
        obtain ⟨q, hq, rfl, cs', HO, HC, HV⟩ := hrel
        have hsz := HC.out.size
        by_cases hlt : q < 64
        · have q1 : (q : Int) < 64 := by omega
          obtain ⟨y, HY⟩ : ∃ y, Hid (y = IntKind.i64.wrap (mark - 100)) := ⟨_, rfl⟩
          have HX : Hid (∀ (w0 : World) (t : TypeId) (x : Int), (w0.alloc (.cells #[.int .i64 x] t)).cell? ⟨w0.heap.size, 0, none⟩ = some ((fun j => if j = k + q then Value.int .i64 x else cs' j) (k + q))) := fun w0 t x => by
            show _ = some (if k + q = k + q then Value.int .i64 x else cs' (k + q))
            rw [if_pos rfl]
            exact new_cell _ _ _
          have HO2 := fun x : Int => HO.out.congr (cs' := fun j => if j = k + q then Value.int .i64 x else cs' j) (fun j hj => by
            show cs' j = if j = k + q then _ else cs' j
            rw [if_neg (by omega)])
          have HO2 := hidd HO2
          have HON : Hid (∀ x : Int, ((fun j => if j = k + q then Value.int .i64 x else cs' j) (k + q)).oneCell' = true) := fun x => by
            show (if k + q = k + q then Value.int .i64 x else cs' (k + q)).oneCell' = true
            rw [if_pos rfl]
            rfl
          go_wp2_with (at_builtin; refine wpList_app1 _ rfl _ _ 22 rfl base 3 (.int .i64 0) 8 Try.underlying22 infoI rfl _ (k + q) _ rfl ((HO2.out _).kept (fresh_alloc _ _)) _ 1 rfl (HX.out _ _ _) (HON.out _) (by omega) (by omega) (by simp; omega) ?_)
          intro v' w4 hown' happ
          have HC4 := hidd (((HC.out.post (fresh_alloc _ _)).trans (Chg.of_app happ) (fun b hb e => by
            rcases HV.out b e with r | r
            · exact r
            · omega)))
          have HV4 : Hid (∀ b, v'.ownBlock = some b → (Value.slice u k c).ownBlock = some b ∨ w.heap.size ≤ b) := fun b hb => by
            rcases happ.blk b hb with r | r
            · exact HV.out b r
            · exact .inr (by simp at r; omega)
          have HO4 := hidd hown'
          clear happ hown' HX HO2 HON HO HC HV
          go_wp2
          go_roundw
          case rel => exact ⟨q + 1, by omega, by go_num, _, HO4, HC4, HV4⟩
          case measure => simp [intOf]; omega
        · have hq64 : q = 64 := by omega
          subst hq64
          obtain ⟨u5, c5, rfl, _⟩ := own_sl HO.out
          obtain ⟨g, rfl, _, _⟩ := own_blk HO.out (by omega)
          obtain ⟨b1, o1, e1, h1⟩ := (own_rda HO.out).one (by omega)
          cases e1
          obtain ⟨p, HP⟩ : ∃ p, Hid (p = k + 63) := ⟨_, rfl⟩
          have x1 := h1 p (by have := HP.out; omega)
          simp only [Nat.zero_add] at x1
          have fz := own_fz HO.out
          have HC2 := fun x : Value => HC.out.trans (Chg.of_set wr g p x) (fun b hb e => by
            rcases HV.out b (by rw [e]; rfl) with r | r
            · exact r
            · omega)
          have HC2 := hidd HC2
          have e3 : (k : Int) + 64 - 1 = (p : Int) := by have := HP.out; omega
          have i0 : (0 : Int) ≤ (p : Int) := by omega
          have i1 : (p : Int) < (k : Int) + 64 := by have := HP.out; omega
          have i2 : p < k + 64 := by have := HP.out; omega
          clear h1
          go_wp2
          go_end0
          exact ⟨rfl, HC2.out _⟩
end Go.Proofs.Ytknfddakpfkcfaa
