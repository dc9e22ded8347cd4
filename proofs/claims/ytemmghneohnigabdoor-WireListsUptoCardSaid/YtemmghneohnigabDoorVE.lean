import Derived.Test.YtemmghneohnigabDoorRK
import Derived.Test.YtemmghneohnigabDoorRows
import Derived.Test.YtemmghneohnigabDoorOwn
namespace Go.Proofs.YtemmghneohnigabDoor
open Go.RowKit
/-! Lists of unlike types; lists with marks. -/
theorem infoT : (Tryd.prog.info? 9).map (fun i => (i.zero, i.size, i.bytes)) = some (some (.string ⟨#[]⟩), 1, 16) := by kernel_rfl
/-- lists of unlike types share no block -/
theorem Own.unlike {w : World} {base base' : Nat} {e e' : TypeId} {sz sz' : Nat} {v v' : Value} {n n' : Nat} {cs cs' : Nat → Value} (h : Own w base e sz v n cs) (h' : Own w base' e' sz' v' n' cs') (hne : e ≠ e') : Off v v' := fun k hk hk' => by
  rcases h.2 with ⟨rfl, rfl⟩ | ⟨g, cap, cur, rfl, hb, hgg, _⟩
  · simp [Value.ownBlock] at hk
  · rcases h'.2 with ⟨rfl, rfl⟩ | ⟨g', cap', cur', rfl, hb', hgg', _⟩
    · simp [Value.ownBlock] at hk'
    · simp only [Value.ownBlock, Option.some.injEq] at hk hk'
      subst hk
      subst hk'
      rw [hgg] at hgg'
      injection hgg' with q
      injection q with _ q2
      exact hne q2
theorem Own.off_blk {w : World} {base : Nat} {e : TypeId} {sz : Nat} {v : Value} {n : Nat} {cs : Nat → Value} {b : Nat} {t : TypeId} {c2 : Array Value} (h : Own w base e sz v n cs) (hb : Blk w b t c2) (hne : e ≠ t) : ¬ v.ownBlock = some b := by
  intro hv
  rcases h.2 with ⟨rfl, rfl⟩ | ⟨g, cap, cur, rfl, hb', hgg, _⟩
  · simp [Value.ownBlock] at hv
  · simp only [Value.ownBlock, Option.some.injEq] at hv
    subst hv
    unfold Blk at hb
    rw [hb] at hgg
    injection hgg with hgg
    injection hgg with _ h2
    exact hne h2.symm
def mkI (l : List Int) (j : Nat) : Value := .int .i64 (if j < l.length then l.getD j 0 else 77)
def mkS (l : List (List Int)) (j : Nat) : Value := if j < l.length then stc l j else .string ⟨#[109, 97, 114, 107]⟩
theorem mkI_lt {l : List Int} {j : Nat} (h : j < l.length) : mkI l j = .int .i64 (l.getD j 0) := by unfold mkI; rw [if_pos h]
theorem mkI_ge (l : List Int) (k : Nat) : mkI l (l.length + k) = .int .i64 77 := by unfold mkI; rw [if_neg (by omega)]
theorem mkS_lt {l : List (List Int)} {j : Nat} (h : j < l.length) : mkS l j = stc l j := by unfold mkS; rw [if_pos h]
theorem mkS_ge (l : List (List Int)) (k : Nat) : mkS l (l.length + k) = .string ⟨#[109, 97, 114, 107]⟩ := by unfold mkS; rw [if_neg (by omega)]
theorem mkBt (l : List Int) {j : Nat} (h : j < l.length) : mkB l j = byc l j := by unfold mkB byc; rw [if_pos h]
theorem mkBg (l : List Int) (k : Nat) : mkB l (l.length + k) = .int .u8 77 := by unfold mkB; rw [if_neg (by omega)]
/-- the three lists, the line and the answer's cell -/
structure Gv (w0 : World) (L Z : Array Value) (t nums : List Int) (st : List (List Int)) (v3 v4 v5 : Value) (a b c : Nat) (w : World) : Prop where
  bx : Blk w w0.heap.size 32 L
  lz : Blk w (w0.heap.size + 1) 28 Z
  o3 : Own w w0.heap.size 5 1 v3 a (mkB t)
  o4 : Own w w0.heap.size 3 1 v4 b (mkI nums)
  o5 : Own w w0.heap.size 9 1 v5 c (mkS st)
  low : Below w0.heap.size w0 w
section
variable {w0 : World} {L Z : Array Value} {t nums : List Int} {st : List (List Int)} {v3 v4 v5 v' : Value} {a b c : Nat} {w w' : World}
theorem Gv.size (h : Gv w0 L Z t nums st v3 v4 v5 a b c w) : w0.heap.size ≤ w.heap.size := h.low.size
theorem Gv.fresh (h : Gv w0 L Z t nums st v3 v4 v5 a b c w) (f : Below w.heap.size w w') : Gv w0 L Z t nums st v3 v4 v5 a b c w' :=
  ⟨h.bx.fresh f, h.lz.fresh f, h.o3.kept f, h.o4.kept f, h.o5.kept f, fresh_trans h.low f⟩
theorem Gv.app3 (h : Gv w0 L Z t nums st v3 v4 v5 a b c w) (o : Own w' w0.heap.size 5 1 v' (a + 1) (mkB t)) (p : App w w' v3 v') : Gv w0 L Z t nums st v' v4 v5 (a + 1) b c w' := by
  have ca := Chg.of_app p
  exact ⟨h.bx.chg ca (h.o3.off_blk h.bx (by decide)), h.lz.chg ca (h.o3.off_blk h.lz (by decide)), o, p.own h.o4 (h.o3.unlike h.o4 (by decide)), p.own h.o5 (h.o3.unlike h.o5 (by decide)), p.below h.low h.o3 (Nat.le_refl _) h.size⟩
theorem Gv.app4 (h : Gv w0 L Z t nums st v3 v4 v5 a b c w) (o : Own w' w0.heap.size 3 1 v' (b + 1) (mkI nums)) (p : App w w' v4 v') : Gv w0 L Z t nums st v3 v' v5 a (b + 1) c w' := by
  have ca := Chg.of_app p
  exact ⟨h.bx.chg ca (h.o4.off_blk h.bx (by decide)), h.lz.chg ca (h.o4.off_blk h.lz (by decide)), p.own h.o3 (h.o4.unlike h.o3 (by decide)), o, p.own h.o5 (h.o4.unlike h.o5 (by decide)), p.below h.low h.o4 (Nat.le_refl _) h.size⟩
theorem Gv.app5 (h : Gv w0 L Z t nums st v3 v4 v5 a b c w) (o : Own w' w0.heap.size 9 1 v' (c + 1) (mkS st)) (p : App w w' v5 v') : Gv w0 L Z t nums st v3 v4 v' a b (c + 1) w' := by
  have ca := Chg.of_app p
  exact ⟨h.bx.chg ca (h.o5.off_blk h.bx (by decide)), h.lz.chg ca (h.o5.off_blk h.lz (by decide)), p.own h.o3 (h.o5.unlike h.o3 (by decide)), p.own h.o4 (h.o5.unlike h.o4 (by decide)), o, p.below h.low h.o5 (Nat.le_refl _) h.size⟩
end
theorem own_slice {w : World} {base : Nat} {e : TypeId} {v : Value} {n : Nat} {cs : Nat → Value} (h : Own w base e 1 v n cs) (hn : 0 < n) : ∃ g cap, v = .slice (some ⟨g, 0, none⟩) n cap ∧ n ≤ cap ∧ cap ≤ maxLen ∧ base ≤ g := by
  rcases h.2 with ⟨_, h0⟩ | ⟨g, cap, cur, rfl, hb, hgg, h1, h2, _⟩
  · omega
  · exact ⟨g, cap, rfl, h1, h2, hb⟩
def lz7 : Array Value := #[.string ⟨#[]⟩, .int .i64 0, .slice none 0 0, .slice none 0 0, .int .u64 0, .string ⟨#[]⟩, .slice none 0 0]
theorem sizeLn7 : (Tryd.prog.info? 28).map (·.size) = some 7 := by kernel_rfl
end Go.Proofs.YtemmghneohnigabDoor
namespace Go.Proofs.YtemmghneohnigabDoor
open Go.RowKit
/-- A region that draws its order and whose calls lay new blocks alone: one walk, in the order of the text; the class of worlds: w with new blocks behind it. -/
structure Later (w : World) where
  val : World
  fresh : Below w.heap.size w val
theorem later_some (w : World) : Nonempty (Later w) := ⟨⟨w, Below.refl _ _⟩⟩
theorem wp_region_later {P : Program} {id : Nat} {Q : Exit → Act → World → Prop} {a : Act} {w : World} {l : List Oper} (hm : P.follows .mixedOrders = true) (hB : Region.lexB .any l.toArray = true)
    (h : wpQuiet P l.toArray (fun w' => ∃ x : Later w, w' = x.val) (fun a' => ∀ w', (∃ x : Later w, w' = x.val) → Q .normal a' w') l a) : (Code.region id l.toArray true).wp P Q a w :=
  wp_region_quiet (C := fun w' => ∃ x : Later w, w' = x.val) hm hB ⟨⟨w.drew, (Below.refl _ _).drew⟩, rfl⟩ (by simpa using h)
theorem later_of {P : Program} {f : FuncId} {args : Array Value} {w : World} {x : Later w} {v : Value} (h : Calls P f args x.val fun e w' => e = .returned v ∧ Below x.val.heap.size x.val w') :
    Calls P f args x.val fun e w'' => e = .returned v ∧ ∃ y : Later w, w'' = y.val :=
  h.mono fun _ w' ⟨he, hf⟩ => ⟨he, ⟨w', fresh_trans x.fresh hf⟩, rfl⟩
theorem later_same {P : Program} {f : FuncId} {args : Array Value} {w : World} {x : Later w} {v : Value} (h : Calls P f args x.val fun e w' => e = .returned v ∧ w' = x.val) :
    Calls P f args x.val fun e w'' => e = .returned v ∧ ∃ y : Later w, w'' = y.val :=
  h.mono fun _ _ ⟨he, hf⟩ => ⟨he, x, hf⟩
theorem later_cell {w : World} {b o : Nat} {v : Value} (h : w.cell? ⟨b, o, none⟩ = some v) (x : Later w) : x.val.cell? ⟨b, o, none⟩ = some v := fresh_cell x.fresh h
end Go.Proofs.YtemmghneohnigabDoor
namespace Go.Proofs.YtemmghneohnigabDoor
open Go.RowKit
/-! The reference's Print: small facts. -/
theorem str_ne {g : List Int} (hB : Byt g) (h : g ≠ []) : (strOfNums g).toList.isEmpty = false ∧ ¬ (strOfNums g).toList = [] := by
  have hge := str_eq hB byt_nil
  rw [show strOfNums [] = (⟨#[]⟩ : ByteArray) from rfl, show (⟨#[]⟩ : ByteArray).toList = [] from by decide +kernel, decide_eq_false h] at hge
  have h2 : ¬ (strOfNums g).toList = [] := by simpa using hge
  exact ⟨by simpa using h2, h2⟩
theorem numW_nm : ∀ {k : Nat}, k < 6 → numW (wNm k) = (cntW k : Int) := by
  have h : ∀ k, k < 6 → numW (wNm k) = (cntW k : Int) := by decide
  intro k hk
  exact h k hk
theorem cnt_le (k : Nat) : cntW k ≤ 6 := by
  unfold cntW
  split
  · omega
  · split <;> omega
/-- a string made a list of bytes -/
theorem conv_rd (w : World) {s : List Int} (hB : Byt s) (hl : s.length ≤ 2097152) : ∃ cap w1, (convert 9 23 (.string (strOfNums s))).run Tryd.prog w = .ok (.slice (some ⟨w.heap.size, 0, none⟩) s.length cap) w1 ∧ RdA w1 (some ⟨w.heap.size, 0, none⟩) 1 s.length cap (byc s) ∧ Below w.heap.size w w1 := by
  have hsc : (strOfNums s).size = s.length := strOfNums_size _
  obtain ⟨cc, w1, hcv, hf1, hz1, hc1, hc2, hcl⟩ := conv_bytes w (strOfNums s) (by rw [hsc]; omega)
  rw [hsc] at hcv hc1 hcl
  rw [str_bys hB] at hcl
  exact ⟨cc, w1, hcv, ⟨hc1, hc2, fun _ => ⟨w.heap.size, 0, rfl, fun j hj => by rw [Nat.zero_add]; exact hcl j (by omega)⟩⟩, hf1⟩
theorem app3 (a b : List Int) : strOfNums a ++ ⟨#[32]⟩ ++ strOfNums b = strOfNums (a ++ 32 :: b) := by
  rw [show (⟨#[32]⟩ : ByteArray) = strOfNums [32] from rfl, str_app, str_app]
  simp
theorem app_size (a b : ByteArray) : (a ++ b).size = a.size + b.size := ByteArray.size_append
theorem stL_take {st : List (List Int)} {j : Nat} (h : j < st.length) : stL (st.take (j + 1)) = stL (st.take j) ++ 32 :: lit (st.getD j []) := by
  rw [List.take_add_one, List.getElem?_eq_getElem h, List.getD_eq_getElem?_getD, List.getElem?_eq_getElem h]
  unfold stL
  rw [List.flatMap_append]
  simp
theorem stL_bound (st : List (List Int)) (hst : ∀ s ∈ st, s.length ≤ 2097152) : ∀ j, j ≤ st.length → (stL (st.take j)).length ≤ j * 8388611
  | 0, _ => by simp [stL]
  | j + 1, h => by
    have ih := stL_bound st hst j (by omega)
    have h9 := hst (st.getD j []) (by rw [List.getD_eq_getElem?_getD, List.getElem?_eq_getElem (by omega)]; exact List.getElem_mem _)
    rw [stL_take (by omega)]
    have := lit_len (st.getD j [])
    have := pies_len (st.getD j [])
    simp only [List.length_append, List.length_cons]
    omega
end Go.Proofs.YtemmghneohnigabDoor
