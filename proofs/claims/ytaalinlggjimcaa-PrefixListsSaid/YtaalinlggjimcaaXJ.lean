import Derived.Test.YtaalinlggjimcaaXI
namespace Go.Proofs.Ytaalinlggjimcaa
open Go.RowKit Go.Shelf
attribute [local go_sem] Oper.semAt_some
/-! is. -/
theorem piece_eql {p q : List Int} (hp : Pc p) (hq : Pc q) (w : World) : (Op.equal 73 (pieceV p) (pieceV q)).run Try.prog w = .ok (decide (p = q)) w := by
  obtain ⟨l, hl⟩ := piece_ok hp
  obtain ⟨m, hm⟩ := piece_ok hq
  obtain ⟨r, h1, h2⟩ := run_equal_deep (P := Try.prog) w (m := 100) (by decide) (k := 73) (by kernel_rfl) (by kernel_rfl) hl hm
  rw [h1]
  by_cases e : p = q
  · subst e
    rw [hl] at hm
    cases hm
    simp [h2]
  · have : r = false := by
      cases hr : r with
      | false => rfl
      | true =>
        have := h2.1 hr
        subst this
        exact absurd (pieceV_inj (plaw.inj hl hm)) e
    simp [this, e]
theorem row_own (B b : Nat) (t : TypeId) (n : Nat) (f : Nat → Value) : OwnFrom B (fun (_ : Unit) W => W.rowIs b t n f) := fun _ X Y row hs hg hr => hs.of_block (hg.block b hs.lt (fun e => by
  obtain ⟨_, o, ho, hc⟩ := hr b e.symm
  obtain ⟨z, hz, _⟩ := hs
  rw [hz] at ho
  cases ho
  cases hc))
theorem KeepsOthers.of_below {W W' : World} (h : Below W.heap.size W W') : KeepsOthers W W' := ⟨h.size, fun l _ e _ => (h.block l (Array.getElem?_eq_some_iff.1 e).1).trans e⟩
theorem Boxed.trans' {W W' : World} {B : Nat} {t : TypeId} {v : Value} (h : Boxed W B t v) (f : Below W.heap.size W W') : Boxed W' B t v := (f.block B h.lt).trans h
theorem fresh_setCells {w : World} {z : Obj} (vs : List Value) : Below w.heap.size w ((w.alloc z).setCells w.heap.size 0 vs) :=
  (Chg.of_setCells w.heap.size vs 0 (w.alloc z)).below (fresh_alloc w z) (by simp) (fun x e => by rw [e]; exact Nat.le_refl _)
def zeros16 : Array Value := #[.int .i64 0, .int .i64 0, .int .i64 0, .int .i64 0, .int .i64 0, .int .i64 0, .int .i64 0, .int .i64 0, .int .i64 0, .int .i64 0, .int .i64 0, .int .i64 0, .int .i64 0, .int .i64 0, .int .i64 0, .int .i64 0]
theorem zeros16_row (W : World) (t : TypeId) : (W.alloc (.cells zeros16 t)).rowIs W.heap.size t 16 (fun _ => .int .i64 0) :=
  World.rowIs_alloc W zeros16 t _ (fun i hi => by
    have hi : i < 16 := hi
    have e : zeros16 = Array.replicate 16 (.int .i64 0) := rfl
    rw [e]
    simp [hi])
theorem ints_range {q : List Int} (h : q.length = 16) : ints q = (List.range 16).map (fun i => .int .i64 (q.getD i 0)) := by
  refine List.ext_getElem? (fun i => ?_)
  by_cases hi : i < 16
  · unfold ints
    simp [hi, List.getElem?_eq_getElem (show i < q.length by omega)]
  · unfold ints
    simp [hi]
    omega
theorem ints_one (q : List Int) : (ints q).toArray.all (·.oneCell') = true := all_oneCell_toArray (fun v hv => by
  unfold ints at hv
  obtain ⟨x, _, rfl⟩ := List.mem_map.1 hv
  rfl)
set_option maxRecDepth 100000 in
set_option maxHeartbeats 4000000 in
theorem is_any {w : World} {c : Ca} {A : Nat → Prop} {L : List Nd} {N : Nat} (h : CacheAt w c A L N) {x : Nd} (hx : x ∈ L) {t : List (List Int)} (hlen : x.path.length = t.length) (ht0 : 0 < t.length) (ht : t.length ≤ 1000) {g cap : Nat} (hT : TextAt w g t) :
    Calls Try.prog 64 #[.pointer (some ⟨x.at_, 0, none⟩), .slice (some ⟨g, 0, none⟩) t.length cap] w fun e w' => e = .returned (.bool (decide (x.path = t))) ∧ Below w.heap.size w w' := by
  refine (callsIn_wide (n := 5)).1 ?_
  refine callsIn_of_wp_marks Try.func64 rfl trivial ?_ rfl
  simp only [Try.ntmps64, List.size_toArray, List.length_cons, List.length_nil, Nat.reduceAdd, Nat.reduceSub, Array.replicate_succ, Array.replicate_zero, List.push_toArray, List.append_toArray, List.nil_append, List.cons_append]
  have hgw : g < w.heap.size := lt_of_cell (hT.row 0 (by omega))
  have HH := hidd h
  have HX := hidd hx
  have HLEN := hidd hlen
  clear h hx hlen
  gi_wp2_with (refine ⟨trivial, ?_⟩; gi_at_call 75; refine (callsIn_wide.2 (backward_any _ _ _ _)).mono ?_; rintro e w' ⟨rfl, rfl⟩)
  have bB := ((Boxed.new w 76 (.pointer (some ⟨x.at_, 0, none⟩))).alloc (.cells #[.bool false] 4)).alloc (.cells #[.slice (some ⟨g, 0, none⟩) t.length cap] 82)
  have bR := (Boxed.new (w.alloc (.cells #[.pointer (some ⟨x.at_, 0, none⟩)] 76)) 4 (.bool false)).alloc (.cells #[.slice (some ⟨g, 0, none⟩) t.length cap] 82)
  have bA := Boxed.new ((w.alloc (.cells #[.pointer (some ⟨x.at_, 0, none⟩)] 76)).alloc (.cells #[.bool false] 4)) 82 (.slice (some ⟨g, 0, none⟩) t.length cap)
  simp only [World.size_alloc] at bR bA
  have hB0 : Below w.heap.size w (((w.alloc (.cells #[.pointer (some ⟨x.at_, 0, none⟩)] 76)).alloc (.cells #[.bool false] 4)).alloc (.cells #[.slice (some ⟨g, 0, none⟩) t.length cap] 82)) := (((Below.refl _ w).alloc (Nat.le_refl _) _).alloc (by simp) _).alloc (by simp; omega) _
  have hsz : (((w.alloc (.cells #[.pointer (some ⟨x.at_, 0, none⟩)] 76)).alloc (.cells #[.bool false] 4)).alloc (.cells #[.slice (some ⟨g, 0, none⟩) t.length cap] 82)).heap.size = w.heap.size + 3 := by simp
  obtain ⟨W0, hW0⟩ : ∃ W0, ((w.alloc (.cells #[.pointer (some ⟨x.at_, 0, none⟩)] 76)).alloc (.cells #[.bool false] 4)).alloc (.cells #[.slice (some ⟨g, 0, none⟩) t.length cap] 82) = W0 := ⟨_, rfl⟩
  rw [hW0] at bB bR bA hB0 hsz ⊢
  clear hW0
  refine wpIn_rangeFunc_ownH (α := Nat × PcT) rfl (by decide) (gf := 78) (lb := #[.pointer (some ⟨w.heap.size + 1 + 1, 0, none⟩)]) rfl trivial (enters_of Try.func78 (by kernel_rfl) rfl)
    (back_stops Fence.wide 4 trivial rfl (by decide) (w.heap.size + 1 + 1) g cap t ht W0 (by omega) (by omega) bA.cell (hT.below hB0 hgw)) KpB.trans (fun V l o o' hl hV hc _ => ⟨by simp, World.putObj_heap_other (by omega), World.putObj_heap_other (by omega)⟩) (Below.refl _ _) (fun _ => rfl)
    (fun pre W => ∃ b o, AdrOf c.C L (x.path.take (t.length - pre.length)) b o ∧ (pre.map (fun z => z.2.1) = x.path.reverse.take pre.length) ∧ Boxed W w.heap.size 76 (.pointer (some ⟨b, o, none⟩)) ∧ Boxed W (w.heap.size + 1) 4 (.bool false) ∧ Below w.heap.size w W ∧ W0.heap.size ≤ W.heap.size)
    (fun cd pre W => (cd = .ret ∧ pre.map (fun z => z.2.1) ≠ x.path.reverse.take pre.length) ∧ Boxed W (w.heap.size + 1) 4 (.bool false) ∧ Below w.heap.size w W)
    ?hI ?hIx ?h0
    (fun z a' W => ∃ Bx, w.heap.size + 2 < Bx ∧ W.rowIs Bx 73 16 (fun i => .int .i64 (z.2.1.getD i 0)) ∧ a' = { tmps := #[.pointer (some ⟨x.at_, 0, none⟩), .slice (some ⟨g, 0, none⟩) t.length cap, .pointer (some ⟨w.heap.size, 0, none⟩), undef, .pointer (some ⟨w.heap.size + 1, 0, none⟩), undef, .pointer (some ⟨Bx, 0, none⟩), .slice (some ⟨g, 0, none⟩) t.length cap, .func (.func 78) #[] #[.pointer (some ⟨w.heap.size + 1 + 1, 0, none⟩)], .int .i64 z.1, pieceV z.2.1, undef, undef, undef, undef, undef, undef, undef, undef, undef, undef, undef], defers := [] })
    ?hAx ?assign ?body ?done ?stop
  case hI =>
    rintro pre X Y row ⟨b, o, h1, h2, h3, h4, h5, h6⟩ hg hr
    exact ⟨b, o, h1, h2, boxed_own _ _ (fun (_ : Unit) => Value.pointer (some ⟨b, o, none⟩)) () X Y row h3 hg (fun r e => (hr r e).2), boxed_own _ _ (fun (_ : Unit) => Value.bool false) () X Y row h4 hg (fun r e => (hr r e).2), ownFrom_below (β := Unit) (n₀ := w.heap.size) (w₀ := w) (Nat.le_refl _) (by omega) () X Y row h5 hg hr, Nat.le_trans h6 hg.size⟩
  case hIx =>
    rintro cd pre X Y row ⟨h1, h4, h5⟩ hg hr
    exact ⟨h1, boxed_own _ _ (fun (_ : Unit) => Value.bool false) () X Y row h4 hg (fun r e => (hr r e).2), ownFrom_below (β := Unit) (n₀ := w.heap.size) (w₀ := w) (Nat.le_refl _) (by omega) () X Y row h5 hg hr⟩
  case h0 => exact ⟨x.at_, 0, .inr ⟨x, HX.out, by simp [← HLEN.out], rfl, rfl⟩, by simp, bB, bR, hB0, Nat.le_refl _⟩
  case hAx =>
    rintro z a' u X Y row ⟨Bx, e1, e2, e3⟩ hg hr
    exact ⟨Bx, e1, row_own _ _ _ _ _ () X Y row e2 hg hr, e3⟩
  case assign =>
    rintro l pre ⟨i, q, hq⟩ W K ⟨b, o, h1, h2, h3, h4, h5, h6⟩ hK
    have hsW := h5.size
    have hl4 := h4.lt
    have R0 : (W.alloc (.cells #[.int .i64 0, .int .i64 0, .int .i64 0, .int .i64 0, .int .i64 0, .int .i64 0, .int .i64 0, .int .i64 0, .int .i64 0, .int .i64 0, .int .i64 0, .int .i64 0, .int .i64 0, .int .i64 0, .int .i64 0, .int .i64 0] 73)).rowIs W.heap.size 73 16 (fun _ => .int .i64 0) := zeros16_row W 73
    have HTH : Hid ((W.alloc (.cells #[.int .i64 0, .int .i64 0, .int .i64 0, .int .i64 0, .int .i64 0, .int .i64 0, .int .i64 0, .int .i64 0, .int .i64 0, .int .i64 0, .int .i64 0, .int .i64 0, .int .i64 0, .int .i64 0, .int .i64 0, .int .i64 0] 73)).there W.heap.size 0 (ints q).toArray.size) := fun j hj => by
      have hj : j < 16 := by simpa [ints_len, hq.1] using hj
      exact ⟨by rw [Nat.zero_add]; rw [R0.cell hj]; rfl, R0.frozen _⟩
    have HSZ : Hid ((Try.prog.info? 73).map (·.size) = some (ints q).toArray.size) := by show _ = _; simp only [List.size_toArray, ints_len, hq.1]; exact sizePc
    have HR : Hid (((W.alloc (.cells zeros16 73)).setCells W.heap.size 0 (ints q)).rowIs W.heap.size 73 16 (fun i => .int .i64 (q.getD i 0))) := by
      have := setCells_cells R0 0 16 (fun i => .int .i64 (q.getD i 0))
      rw [← ints_range hq.1] at this
      exact this.congr (fun i hi => by simp [hi])
    have hfz := fresh_setCells (w := W) (z := .cells zeros16 73) (ints q)
    have HONE := hidd (ints_one q)
    clear R0
    unfold encP pieceV
    gi_wp2_with (refine wpListIn_store_mid (by rfl) 73 _ _ (by rfl) W.heap.size 0 (by rfl) (ints q).toArray (by rfl) HTH.out HSZ.out HONE.out ?_)
    refine hK _ _ ((KeepsOthers.of_below hfz).from _) (KpB.of_below hfz (by omega) (by omega)) ⟨b, o, h1, h2, Boxed.trans' h3 hfz, Boxed.trans' h4 hfz, ?_, Nat.le_trans h6 hfz.size⟩ ⟨W.heap.size, by omega, HR.out, rfl⟩
    exact h5.trans (hfz.mono hsW)
  case body =>
    rintro l pre ⟨i, q, hq⟩ a' W hl hlr ⟨b, o, h1, h2, h3, h4, h5, h6⟩ ⟨Bx, hBx, hx16, rfl⟩ hlt
    have hxl := HLEN.out
    obtain ⟨k, hk⟩ : ∃ k, k = t.length - pre.length - 1 := ⟨_, rfl⟩
    have ek : t.length - pre.length = k + 1 := by omega
    rw [ek] at h1
    rcases h1 with ⟨e, _⟩ | ⟨y, hy, hyp, rfl, rfl⟩
    · have := congrArg List.length e
      rw [List.length_take, Nat.min_eq_left (by omega)] at this
      simp at this
    have hC := HH.out.fresh h5
    obtain ⟨b', o', ha', hr⟩ := hC.node y hy
    have hpl := hC.well.last hy
    rw [hyp, take_drop (by omega)] at ha'
    have hlast : lastP y.path = x.path.getD k [] := by
      unfold lastP
      rw [hyp, List.getLastD_eq_getLast?, List.getLast?_eq_getElem?, List.length_take, Nat.min_eq_left (by omega), Nat.add_sub_cancel, List.getElem?_take_of_lt (by omega), List.getD_eq_getElem?_getD]
    have HREV : Hid (x.path.reverse.take (pre.length + 1) = x.path.reverse.take pre.length ++ [lastP y.path]) := by
      show _ = _
      rw [List.take_add_one, rev_get (by omega), show x.path.length - 1 - pre.length = k by omega, ← hlast]
      rfl
    have HMAP := hidd h2
    have n17 : W.cell? ⟨y.at_, 17, none⟩ = some (.pointer (some ⟨b', o', none⟩)) := hr.cell (i := 17) (by decide)
    obtain ⟨p, hp⟩ : ∃ p, p = lastP y.path := ⟨_, rfl⟩
    rw [← hp] at hr hpl HREV
    have hq0 := hq
    have hpl0 := hpl
    obtain ⟨a0, a1, a2, a3, a4, a5, a6, a7, a8, a9, a10, a11, a12, a13, a14, a15, rfl⟩ := len16 hpl.1
    obtain ⟨b0, b1, b2, b3, b4, b5, b6, b7, b8, b9, b10, b11, b12, b13, b14, b15, rfl⟩ := len16 hq.1
    have HPP := hidd hp
    clear hp hlast hyp
    have p0 : W.cell? ⟨y.at_, 1, none⟩ = some (.int .i64 a0) := hr.cell (i := 1) (by decide)
    have p1 : W.cell? ⟨y.at_, 2, none⟩ = some (.int .i64 a1) := hr.cell (i := 2) (by decide)
    have p2 : W.cell? ⟨y.at_, 3, none⟩ = some (.int .i64 a2) := hr.cell (i := 3) (by decide)
    have p3 : W.cell? ⟨y.at_, 4, none⟩ = some (.int .i64 a3) := hr.cell (i := 4) (by decide)
    have p4 : W.cell? ⟨y.at_, 5, none⟩ = some (.int .i64 a4) := hr.cell (i := 5) (by decide)
    have p5 : W.cell? ⟨y.at_, 6, none⟩ = some (.int .i64 a5) := hr.cell (i := 6) (by decide)
    have p6 : W.cell? ⟨y.at_, 7, none⟩ = some (.int .i64 a6) := hr.cell (i := 7) (by decide)
    have p7 : W.cell? ⟨y.at_, 8, none⟩ = some (.int .i64 a7) := hr.cell (i := 8) (by decide)
    have p8 : W.cell? ⟨y.at_, 9, none⟩ = some (.int .i64 a8) := hr.cell (i := 9) (by decide)
    have p9 : W.cell? ⟨y.at_, 10, none⟩ = some (.int .i64 a9) := hr.cell (i := 10) (by decide)
    have p10 : W.cell? ⟨y.at_, 11, none⟩ = some (.int .i64 a10) := hr.cell (i := 11) (by decide)
    have p11 : W.cell? ⟨y.at_, 12, none⟩ = some (.int .i64 a11) := hr.cell (i := 12) (by decide)
    have p12 : W.cell? ⟨y.at_, 13, none⟩ = some (.int .i64 a12) := hr.cell (i := 13) (by decide)
    have p13 : W.cell? ⟨y.at_, 14, none⟩ = some (.int .i64 a13) := hr.cell (i := 14) (by decide)
    have p14 : W.cell? ⟨y.at_, 15, none⟩ = some (.int .i64 a14) := hr.cell (i := 15) (by decide)
    have p15 : W.cell? ⟨y.at_, 16, none⟩ = some (.int .i64 a15) := hr.cell (i := 16) (by decide)
    have q0 : W.cell? ⟨Bx, 0, none⟩ = some (.int .i64 b0) := hx16.cell (i := 0) (by decide)
    have q1 : W.cell? ⟨Bx, 1, none⟩ = some (.int .i64 b1) := hx16.cell (i := 1) (by decide)
    have q2 : W.cell? ⟨Bx, 2, none⟩ = some (.int .i64 b2) := hx16.cell (i := 2) (by decide)
    have q3 : W.cell? ⟨Bx, 3, none⟩ = some (.int .i64 b3) := hx16.cell (i := 3) (by decide)
    have q4 : W.cell? ⟨Bx, 4, none⟩ = some (.int .i64 b4) := hx16.cell (i := 4) (by decide)
    have q5 : W.cell? ⟨Bx, 5, none⟩ = some (.int .i64 b5) := hx16.cell (i := 5) (by decide)
    have q6 : W.cell? ⟨Bx, 6, none⟩ = some (.int .i64 b6) := hx16.cell (i := 6) (by decide)
    have q7 : W.cell? ⟨Bx, 7, none⟩ = some (.int .i64 b7) := hx16.cell (i := 7) (by decide)
    have q8 : W.cell? ⟨Bx, 8, none⟩ = some (.int .i64 b8) := hx16.cell (i := 8) (by decide)
    have q9 : W.cell? ⟨Bx, 9, none⟩ = some (.int .i64 b9) := hx16.cell (i := 9) (by decide)
    have q10 : W.cell? ⟨Bx, 10, none⟩ = some (.int .i64 b10) := hx16.cell (i := 10) (by decide)
    have q11 : W.cell? ⟨Bx, 11, none⟩ = some (.int .i64 b11) := hx16.cell (i := 11) (by decide)
    have q12 : W.cell? ⟨Bx, 12, none⟩ = some (.int .i64 b12) := hx16.cell (i := 12) (by decide)
    have q13 : W.cell? ⟨Bx, 13, none⟩ = some (.int .i64 b13) := hx16.cell (i := 13) (by decide)
    have q14 : W.cell? ⟨Bx, 14, none⟩ = some (.int .i64 b14) := hx16.cell (i := 14) (by decide)
    have q15 : W.cell? ⟨Bx, 15, none⟩ = some (.int .i64 b15) := hx16.cell (i := 15) (by decide)
    have c3 := h3.cell
    have f3 := h3.frozen
    have c4 := h4.cell
    have f4 := h4.frozen
    have HA' := hidd ha'
    have HX16 := hidd hx16
    have hyw : y.at_ < w.heap.size := by
      obtain ⟨_, _, _, hr9⟩ := HH.out.node y hy
      exact hr9.lt
    have hne1 : y.at_ ≠ w.heap.size := by omega
    clear hr hx16 ha' h2 hC
    by_cases heq : [a0, a1, a2, a3, a4, a5, a6, a7, a8, a9, a10, a11, a12, a13, a14, a15] = [b0, b1, b2, b3, b4, b5, b6, b7, b8, b9, b10, b11, b12, b13, b14, b15]
    · have hE : ∀ w, (Op.equalIn 10000 73 (.agg #[.int .i64 a0, .int .i64 a1, .int .i64 a2, .int .i64 a3, .int .i64 a4, .int .i64 a5, .int .i64 a6, .int .i64 a7, .int .i64 a8, .int .i64 a9, .int .i64 a10, .int .i64 a11, .int .i64 a12, .int .i64 a13, .int .i64 a14, .int .i64 a15]) (.agg #[.int .i64 b0, .int .i64 b1, .int .i64 b2, .int .i64 b3, .int .i64 b4, .int .i64 b5, .int .i64 b6, .int .i64 b7, .int .i64 b8, .int .i64 b9, .int .i64 b10, .int .i64 b11, .int .i64 b12, .int .i64 b13, .int .i64 b14, .int .i64 b15])).run Try.prog w = .ok true w := fun w => by
        have := piece_eql hpl0 hq0 w
        rw [decide_eq_true heq] at this
        exact this
      have HEQ := hidd heq
      clear heq
      gi_wp2
      gi_region
      all_goals
        gi_wp2
        refine ⟨((KeepsOthers.drew W).trans (KeepsOthers.setCell _ _ _)).from _, ⟨by simp, Below.heap_setCell _ _ _ _ (by show ¬ (_ = w.heap.size); omega), Below.heap_setCell _ _ _ _ (by show ¬ (_ = w.heap.size); omega)⟩, b', o', ?_, ?_, ?_, ?_, ?_, ?_⟩
        · rw [show t.length - (pre ++ [(i, (⟨_, hq0⟩ : PcT))]).length = k by simp; omega]; exact HA'.out
        · rw [List.map_append, HMAP.out, show (pre ++ [(i, (⟨_, hq0⟩ : PcT))]).length = pre.length + 1 by simp, HREV.out, HEQ.out]; rfl
        · exact Boxed.set _ (show Boxed W.drew _ _ _ from h3)
        · exact Boxed.other (show Boxed W.drew _ _ _ from h4) (by omega) _
        · exact h5.drew.setCell (Nat.le_refl _) _
        · simpa using h6
    · have hE : ∀ w, (Op.equalIn 10000 73 (.agg #[.int .i64 a0, .int .i64 a1, .int .i64 a2, .int .i64 a3, .int .i64 a4, .int .i64 a5, .int .i64 a6, .int .i64 a7, .int .i64 a8, .int .i64 a9, .int .i64 a10, .int .i64 a11, .int .i64 a12, .int .i64 a13, .int .i64 a14, .int .i64 a15]) (.agg #[.int .i64 b0, .int .i64 b1, .int .i64 b2, .int .i64 b3, .int .i64 b4, .int .i64 b5, .int .i64 b6, .int .i64 b7, .int .i64 b8, .int .i64 b9, .int .i64 b10, .int .i64 b11, .int .i64 b12, .int .i64 b13, .int .i64 b14, .int .i64 b15])).run Try.prog w = .ok false w := fun w => by
        have := piece_eql hpl0 hq0 w
        rw [decide_eq_false heq] at this
        exact this
      have HEQ := hidd heq
      clear heq
      gi_wp2
      gi_region
      all_goals
        gi_wp2
        refine ⟨((KeepsOthers.drew W).trans (KeepsOthers.setCell _ _ _)).from _, ⟨rfl, ?_⟩, Boxed.set _ (show Boxed W.drew _ _ _ from h4), h5.drew.setCell (by simp) _⟩
        rw [List.map_append, show (pre ++ [(i, (⟨_, hq0⟩ : PcT))]).length = pre.length + 1 by simp, HREV.out, HMAP.out]
        intro e
        have := (List.append_inj e rfl).2
        exact HEQ.out (by simpa using this.symm)
  case done =>
    rintro D ys W hD hys ⟨b, o, h1, h2, h3, h4, h5, h6⟩ hK
    have c4 := h4.cell
    have f4 := h4.frozen
    have hxl := HLEN.out
    have HP : Hid (x.path = t) := by
      show _ = _
      have e1 : ys.length = t.length := by have := congrArg List.length hys; simpa using this
      rw [hys, e1, List.take_of_length_le (by simp; omega)] at h2
      exact (List.reverse_inj.1 h2).symm
    gi_wp2
    have hK' := (KeepsOthers.setCell W ⟨w.heap.size + 1, 0, none⟩ (.bool true)).same D _ hK rfl
    refine ⟨by simp, .inl ⟨_, _, rfl, run_takeDeferred hK', ?_⟩⟩
    have hc5 := cell_kept (h4.set (.bool true)).cell (grownBy_putObj' _ D (.deferred none)) (fun r e => by cases e; exact ⟨_, hK', rfl⟩)
    refine ⟨.bool true, ?_, by rw [decide_eq_true HP.out], (h5.setCell (p := ⟨w.heap.size + 1, 0, none⟩) (by simp) _).trans (belowK_b (w := w) (Nat.le_refl _) _ D _ _ (by omega) hK' rfl rfl)⟩
    simp [results, Try.f64, go_sem, hc5]
  case stop =>
    rintro D cd pre W hD hpre ⟨⟨rfl, hne⟩, h4, h5⟩ hK
    have HP : Hid (¬ x.path = t) := fun e => hne (by
      unfold back at hpre
      have := List.prefix_iff_eq_take.1 hpre
      rw [e, this]
      simp)
    gi_wp2
    refine ⟨by simp, .inl ⟨_, _, rfl, run_takeDeferred hK, ?_⟩⟩
    have hc5 := cell_kept h4.cell (grownBy_putObj' _ D (.deferred none)) (fun r e => by cases e; exact ⟨_, hK, rfl⟩)
    refine ⟨.bool false, ?_, by rw [decide_eq_false HP.out], h5.trans (belowK_b (w := w) (Nat.le_refl _) W D _ _ (by omega) hK rfl rfl)⟩
    simp [results, Try.f64, go_sem, hc5]
end Go.Proofs.Ytaalinlggjimcaa
