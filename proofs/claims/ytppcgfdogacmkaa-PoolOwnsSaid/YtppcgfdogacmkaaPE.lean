import Derived.Test.YtppcgfdogacmkaaPD
namespace Go.Proofs.Ytppcgfdogacmkaa
open Go.RowKit
/-! A table in memory, and its list's small calls. -/
def three (a b c : Value) : Nat → Value := fun i => if i = 0 then a else if i = 1 then b else c
theorem row3 {w : World} {b : Nat} {t : TypeId} {x y z : Value} (h : w.rowIs b t 3 (three x y z)) : w.cell? ⟨b, 0, none⟩ = some x ∧ w.cell? ⟨b, 1, none⟩ = some y ∧ w.cell? ⟨b, 2, none⟩ = some z :=
  ⟨h.cell (i := 0) (by decide), h.cell (i := 1) (by decide), h.cell (i := 2) (by decide)⟩
theorem row3_new (w : World) (t : TypeId) (a b c : Value) : (w.alloc (.cells #[a, b, c] t)).rowIs w.heap.size t 3 (three a b c) :=
  World.rowIs_alloc w #[a, b, c] t _ (fun i hi => by
    match i, hi with
    | 0, _ => rfl
    | 1, _ => rfl
    | 2, _ => rfl)
theorem row3_set1 {w : World} {b : Nat} {t : TypeId} {x y z u : Value} (h : w.rowIs b t 3 (three x y z)) : (w.setCell ⟨b, 1, none⟩ u).rowIs b t 3 (three x u z) :=
  (h.set 1 u).congr (fun i hi => by
    match i, hi with
    | 0, _ => rfl
    | 1, _ => rfl
    | 2, _ => rfl)
structure TblAt (w : World) (base t g S : Nat) (v : Value) (m : Nat) (bl : Nat → Nat) : Prop where
  row : w.rowIs t 103 3 (three (.int .i64 S) v (.pointer (some ⟨g, 0, none⟩)))
  own : Own w base 3 1 v m (fun i => .int .i64 (bl i))
  lt : t < base
theorem TblAt.chg {w w' : World} {base t g S : Nat} {v : Value} {m : Nat} {bl : Nat → Nat} (h : TblAt w base t g S v m bl) {T : Nat → Prop} (c : Chg w w' T) (h1 : ¬ T t) (h2 : ∀ b, v.ownBlock = some b → ¬ T b) : TblAt w' base t g S v m bl := ⟨c.row h.row h1, Own.chg c h.own h2, h.lt⟩
theorem TblAt.fresh {w w' : World} {base t g S : Nat} {v : Value} {m : Nat} {bl : Nat → Nat} (h : TblAt w base t g S v m bl) (f : Below w.heap.size w w') : TblAt w' base t g S v m bl := h.chg (Chg.of_below (fun _ => False) f) id (fun _ _ => id)
theorem TblAt.shape {w : World} {base t g S : Nat} {v : Value} {m : Nat} {bl : Nat → Nat} (h : TblAt w base t g S v m bl) : ∃ ao cap, v = .slice ao m cap := by
  obtain ⟨ao, cap, rfl, _⟩ := h.own.rd
  exact ⟨ao, cap, rfl⟩
set_option maxHeartbeats 400000 in
theorem newTable_any {w : World} {g S : Nat} (c2 : w.cell? ⟨g, 2, none⟩ = some (.int .i64 S)) :
    Calls Try.prog 34 #[.pointer (some ⟨g, 0, none⟩)] w fun e w' => e = .returned (.pointer (some ⟨w.heap.size, 0, none⟩)) ∧ w'.rowIs w.heap.size 103 3 (three (.int .i64 S) (.slice none 0 0) (.pointer (some ⟨g, 0, none⟩))) ∧ w'.heap.size = w.heap.size + 1 ∧ Below w.heap.size w w' := by
  go_enter Try.func34, Try.ntmps34
  go_wp2
  go_ret
  exact ⟨rfl, row3_new _ _ _ _ _, by simp, fresh_alloc _ _⟩
def needs (n S : Nat) : Nat := n / S + (if n % S = 0 then 0 else 1)
theorem needs_le (n S : Nat) : needs n S ≤ n + 1 := by
  unfold needs
  have := Nat.div_le_self n S
  split <;> omega
set_option maxRecDepth 20000 in
set_option maxHeartbeats 800000 in
theorem lacking_any {w : World} {t S m n cap : Nat} {ao : Option Addr} (c0 : w.cell? ⟨t, 0, none⟩ = some (.int .i64 S)) (c1 : w.cell? ⟨t, 1, none⟩ = some (.slice ao m cap)) (hS : 1 ≤ S ∧ S ≤ 16) (hm : m ≤ 1073741824) (hn : n ≤ 9223372036854775807) :
    Calls Try.prog 44 #[.pointer (some ⟨t, 0, none⟩), .int .i64 n] w fun e w' => e = .returned (.int .i64 ((needs n S : Int) - m)) ∧ w' = w := by
  have hz : ¬ (S : Int) = 0 := by omega
  have hz' : ((S : Int) == 0) = false := by simp; omega
  have e1 : (n : Int).tmod (S : Int) = ((n % S : Nat) : Int) := rfl
  have e2 : (n : Int) % (S : Int) = ((n % S : Nat) : Int) := rfl
  have e3 : (n : Int).tdiv (S : Int) = ((n / S : Nat) : Int) := rfl
  have e4 : (n : Int) / (S : Int) = ((n / S : Nat) : Int) := rfl
  have hd := Nat.div_le_self n S
  have hN : Hid (needs n S = n / S + (if n % S = 0 then 0 else 1)) := rfl
  have hr : n % S ≠ 0 → n / S < n := fun h => by
    have := Nat.div_add_mod n S
    have h2 : n / S ≤ S * (n / S) := Nat.le_mul_of_pos_left _ (by omega)
    omega
  generalize n / S = d at *
  generalize n % S = r at *
  by_cases h0 : r = 0
  · subst h0
    go_enter Try.func44, Try.ntmps44
    go_wp2
    go_ret
    refine ⟨ret_int ?_, rfl⟩
    rw [hN.out]; simp
  · have hr' := hr h0
    clear hr
    go_enter Try.func44, Try.ntmps44
    go_wp2
    go_ret
    refine ⟨ret_int ?_, rfl⟩
    rw [hN.out]; simp [h0]
set_option maxRecDepth 20000 in
set_option maxHeartbeats 800000 in
theorem push_any {w : World} {base t g S m x : Nat} {v : Value} {bl : Nat → Nat} (h : TblAt w base t g S v m bl) (hx : bl m = x) (hm : m ≤ 1073741824) (hbs : base ≤ w.heap.size) :
    Calls Try.prog 45 #[.pointer (some ⟨t, 0, none⟩), .int .i64 x] w fun e w' => e = .returned (.tuple #[]) ∧ ∃ v', TblAt w' base t g S v' (m + 1) bl ∧ Chg w w' (fun b => b = t ∨ v.ownBlock = some b) ∧ (∀ k, v'.ownBlock = some k → v.ownBlock = some k ∨ w.heap.size ≤ k) := by
  obtain ⟨c0, c1, c2⟩ := row3 h.row
  have H := hidd h
  have f0 := h.row.frozen
  obtain ⟨ao, cap, rfl⟩ := h.shape
  have HO := hidd (fun (ob : Obj) => h.own.kept (fresh_alloc w ob))
  have HX : Hid (∀ (w0 : World) (t : TypeId), (w0.alloc (.cells #[.int .i64 x] t)).cell? ⟨w0.heap.size, 0, none⟩ = some ((fun i => Value.int .i64 (bl i : Int)) m)) := fun w0 t => by rw [new_cell]; simp only [hx]
  clear h hx
  go_enter Try.func45, Try.ntmps45
  go_wp2_with (at_builtin; refine wpList_app1 _ rfl _ _ 45 rfl base 3 (.int .i64 0) 8 Try.underlying45 infoI rfl _ m (fun i => .int .i64 (bl i)) rfl (HO.out _) _ 1 rfl (HX.out _ _) rfl (by omega) (by omega) (by simp; omega) ?_)
  intro v' w6 hown happ
  have fA := fresh_alloc w (.cells #[.int .i64 x] 3)
  have ca : Chg w w6 (fun b => (Value.slice ao m cap).ownBlock = some b) := Chg.pre fA (Chg.of_app happ)
  have hlt := H.out.lt
  have hne : (Value.slice ao m cap).ownBlock ≠ some t := fun e => by have := (H.out.own.lt t e).1; omega
  have r6 := ca.row H.out.row hne
  have e1 : w6.cell? ⟨t, 1, none⟩ = some (.slice ao m cap) := (row3 r6).2.1
  have f6 := r6.frozen
  have HR : Hid (∀ k, v'.ownBlock = some k → (Value.slice ao m cap).ownBlock = some k ∨ w.heap.size ≤ k) := fun k hk => (happ.blk k hk).imp id (fun h => by simp at h; omega)
  have HW := hidd hown
  have HC := hidd ca
  have R6 := hidd r6
  obtain ⟨a2, k2, rfl, _⟩ := hown.rd
  clear ca hown happ r6 HO HX fA H c0 c1 c2 f0
  go_wp2
  go_end0
  refine ⟨rfl, _, ⟨row3_set1 R6.out, Own.chg (Chg.of_set w6 t 1 _) HW.out (fun b hb e => by have := (HW.out.lt b hb).1; omega), hlt⟩, HC.out.imp (fun _ _ e => Or.inr e) |>.trans (Chg.of_set w6 t 1 _) (fun _ _ e => Or.inl e), HR.out⟩
set_option maxRecDepth 20000 in
set_option maxHeartbeats 800000 in
theorem reaches_any {w : World} {t S m n cap : Nat} {ao : Option Addr} (c0 : w.cell? ⟨t, 0, none⟩ = some (.int .i64 S)) (c1 : w.cell? ⟨t, 1, none⟩ = some (.slice ao m cap)) (hS : 1 ≤ S ∧ S ≤ 16) (hn : n ≤ 9223372036854775807) :
    Calls Try.prog 47 #[.pointer (some ⟨t, 0, none⟩), .int .i64 n] w fun e w' => e = .returned (.bool (decide (n / S < m))) ∧ Below w.heap.size w w' := by
  have hz : ¬ (S : Int) = 0 := by omega
  have hz' : ((S : Int) == 0) = false := by simp; omega
  have e3 : (n : Int).tdiv (S : Int) = ((n / S : Nat) : Int) := rfl
  have e4 : (n : Int) / (S : Int) = ((n / S : Nat) : Int) := rfl
  have hd := Nat.div_le_self n S
  have g0 : decide ((0 : Int) ≤ (n : Int)) = true := by simp
  generalize n / S = d at *
  have hb : Hid (decide ((d : Int) < (m : Int)) = decide (d < m)) := by show _ = _; simp
  go_enter Try.func47, Try.ntmps47
  go_wp2
  go_quiet (fail)
  go_wp2
  go_ret
  exact ⟨ret_bool (by first | exact hb.out | simp), below_drewN (Below.refl _ _) _⟩
set_option maxRecDepth 20000 in
set_option maxHeartbeats 800000 in
theorem reaches_neg {w : World} {t : Nat} {n : Int} (hn : n < 0) :
    Calls Try.prog 47 #[.pointer (some ⟨t, 0, none⟩), .int .i64 n] w fun e w' => e = .returned (.bool false) ∧ Below w.heap.size w w' := by
  have g0 : decide ((0 : Int) ≤ n) = false := by simp; omega
  go_enter Try.func47, Try.ntmps47
  go_wp2
  go_quiet (fail)
  go_wp2
  go_ret
  exact ⟨rfl, below_drewN (Below.refl _ _) _⟩
set_option maxRecDepth 20000 in
set_option maxHeartbeats 800000 in
theorem lat_any {w : World} {base t g S m n : Nat} {v : Value} {bl : Nat → Nat} (h : TblAt w base t g S v m bl) (hS : 1 ≤ S ∧ S ≤ 16) (hm : m ≤ 1073741824) (hp : n / S < m) :
    Calls Try.prog 48 #[.pointer (some ⟨t, 0, none⟩), .int .i64 n] w fun e w' => e = .returned (.int .i64 (bl (n / S) : Nat)) ∧ Below w.heap.size w w' := by
  obtain ⟨c0, c1, c2⟩ := row3 h.row
  obtain ⟨gb, cap, F, rfl, h1, h2, h3, hr, hF⟩ := Own.row1 h.own (Nat.lt_of_le_of_lt (Nat.zero_le _) hp)
  have d1 := hr.cell (i := n / S) (Nat.lt_of_lt_of_le hp h1)
  rw [hF _ hp] at d1
  have hz : ¬ (S : Int) = 0 := by omega
  have hz' : ((S : Int) == 0) = false := by simp; omega
  have e3 : (n : Int).tdiv (S : Int) = ((n / S : Nat) : Int) := rfl
  have e4 : (n : Int) / (S : Int) = ((n / S : Nat) : Int) := rfl
  have hd := Nat.div_le_self n S
  clear h hF hr
  generalize n / S = d at *
  go_enter Try.func48, Try.ntmps48
  go_wp2
  go_quiet (fail)
  go_wp2
  go_ret
  exact ⟨rfl, below_drewN (Below.refl _ _) _⟩
end Go.Proofs.Ytppcgfdogacmkaa
