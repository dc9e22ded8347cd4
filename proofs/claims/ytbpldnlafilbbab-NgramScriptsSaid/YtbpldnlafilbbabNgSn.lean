import Derived.Test.YtbpldnlafilbbabNgSa
namespace Go.Proofs.Ytbpldnlafilbbab
open Go.RowKit Go.Shelf
attribute [local go_sem] Oper.semAt_some
/-! Places and Propose on nil. -/
structure TN (w W0 : World) (bt : Nat) (t : TypeId) (W : World) : Prop where
  box : Boxed W bt t (.slice none 0 0)
  low : Below w.heap.size w W
  size : W0.heap.size ≤ W.heap.size
theorem TN.from_ {w W0 : World} (h : w.heap.size ≤ W0.heap.size) (bt : Nat) (t : TypeId) : OwnFrom W0.heap.size (fun (_ : Unit) W => TN w W0 bt t W) := by
  rintro u X Y row ⟨h1, h2, h3⟩ hg hr
  exact ⟨boxed_own _ _ (fun (_ : Unit) => Value.slice none 0 0) () X Y row h1 hg (fun r e => (hr r e).2), ownFrom_below (β := Unit) (Nat.le_refl _) h () X Y row h2 hg hr, Nat.le_trans h3 hg.size⟩
set_option maxRecDepth 100000 in
set_option maxHeartbeats 4000000 in
theorem places_nil (w : World) (k : Int) :
    Calls Try.prog 21 #[.pointer none, .int .i64 k] w fun e w' => e = .returned (.slice none 0 0) ∧ Below w.heap.size w w' := by
  refine (callsIn_wide (n := 5)).1 ?_
  refine callsIn_of_wp_marks Try.func21 rfl trivial ?_ rfl
  simp only [Try.ntmps21, List.size_toArray, List.length_cons, List.length_nil, Nat.reduceAdd, Nat.reduceSub, Array.replicate_succ, Array.replicate_zero, List.push_toArray, List.append_toArray, List.nil_append, List.cons_append]
  have hB0 : Below w.heap.size w ((w.alloc (.cells #[.int .i64 k] 3)).alloc (.cells #[.slice none 0 0] 22)) := ((Below.refl _ w).alloc (Nat.le_refl _) _).alloc (by simp) _
  have bT := Boxed.new (w.alloc (.cells #[.int .i64 k] 3)) 22 (.slice none 0 0)
  simp only [World.size_alloc] at bT
  have HRK := hidd (placesF_any ((w.alloc (.cells #[.int .i64 k] 3)).alloc (.cells #[.slice none 0 0] 22)) none)
  obtain ⟨Bn, hBn⟩ : ∃ Bn, Bn = ((w.alloc (.cells #[.int .i64 k] 3)).alloc (.cells #[.slice none 0 0] 22)).heap.size := ⟨_, rfl⟩
  rw [← hBn] at HRK
  simp only [World.size_alloc] at hBn
  have HBn := hidd hBn
  have hB1 : w.heap.size + 1 < Bn := by omega
  clear hBn
  have hfn := fn_nil
  gi_wp2_with (refine ⟨trivial, ?_⟩; gi_at_call 26; refine (callsIn_wide.2 HRK.out).mono ?_; rintro e W0 ⟨rfl, hcl, hsz, f0⟩)
  have f0' : Below ((w.alloc (.cells #[.int .i64 k] 3)).alloc (.cells #[.slice none 0 0] 22)).heap.size ((w.alloc (.cells #[.int .i64 k] 3)).alloc (.cells #[.slice none 0 0] 22)) W0 := f0.mono (by have := HBn.out; simp; omega)
  have f1 := hB0.trans (f0.mono (by have := HBn.out; omega))
  have hB2 : Bn < W0.heap.size := by omega
  clear hsz
  have H0 : Hid (TN w W0 (w.heap.size + 1) 22 W0) := ⟨Boxed.trans' bT f0', f1, Nat.le_refl _⟩
  clear bT HRK hB0 f0 f0'
  refine wpIn_rangeFunc_ownH (α := Nat) rfl (by decide) (gf := 32) (lb := #[.pointer (some ⟨Bn, 0, none⟩)]) rfl trivial (enters_of Try.func32 (by kernel_rfl) rfl)
    ((nil_ps W0).seq W0 Bn (Chg.refl _ _) hB2 hcl) KpD.trans (fun V l o o' hl hV hc _ => ⟨by simp, fun b hb => hb.elim⟩) (Below.refl _ _) (fun _ => rfl)
    (fun _ W => TN w W0 (w.heap.size + 1) 22 W)
    (fun _ _ _ => False)
    ?hI ?hIx ?h0
    (fun z a' _ => a' = { tmps := #[.pointer none, .int .i64 k, undef, .pointer (some ⟨w.heap.size, 0, none⟩), .slice none 0 0, .pointer (some ⟨w.heap.size + 1, 0, none⟩), .func (.func 32) #[] #[.pointer (some ⟨Bn, 0, none⟩)], .int .i64 (z : Int), .pointer none, .func (.func 32) #[] #[.pointer (some ⟨Bn, 0, none⟩)], .func (.func 32) #[] #[.pointer (some ⟨Bn, 0, none⟩)], .bool false, undef, .func (.func 32) #[] #[.pointer (some ⟨Bn, 0, none⟩)], .int .i64 (z : Int), undef, undef, undef, undef, undef, undef, undef, undef, undef], defers := [] })
    ?hAx ?assign ?body ?done ?stop
  case hI =>
    rintro pre X Y row h1 hg hr
    exact TN.from_ (by omega) _ _ () X Y row h1 hg hr
  case hIx =>
    rintro cd pre X Y row h1 hg hr
    exact h1
  case h0 => exact H0.out
  case hAx =>
    rintro z a' u X Y row e1 hg hr
    exact e1
  case assign =>
    rintro l pre x W K hi hK
    have HI := hidd hi
    clear hi
    unfold encQ
    gi_wp2
    exact hK _ _ (KeepsFrom.refl _ _) (KpD.refl _ _) HI.out rfl
  case body =>
    rintro l pre x a' W hl hlr h1 rfl hlt
    exact absurd hlt (by simp)
  case done =>
    rintro D xs W hD hxs ⟨h1, h4, h5⟩ hW
    have c1 := h1.cell
    gi_wp2
    refine ⟨by simp, .inl ⟨_, _, rfl, run_takeDeferred hW, ?_⟩⟩
    exact ⟨.slice none 0 0, by simp [results, Try.f21, go_sem], rfl, h4.trans (belowK_b (w := w) (Nat.le_refl _) W D _ _ (by omega) hW rfl rfl)⟩
  case stop =>
    rintro D cd pre W hD hp h1 hW
    exact h1.elim
set_option maxRecDepth 100000 in
set_option maxHeartbeats 4000000 in
theorem propose_nil (w : World) (ways deep : Int) :
    Calls Try.prog 23 #[.pointer none, .int .i64 ways, .int .i64 deep] w fun e w' => e = .returned (.slice none 0 0) ∧ Below w.heap.size w w' := by
  refine (callsIn_wide (n := 5)).1 ?_
  refine callsIn_of_wp_marks Try.func23 rfl trivial ?_ rfl
  simp only [Try.ntmps23, List.size_toArray, List.length_cons, List.length_nil, Nat.reduceAdd, Nat.reduceSub, Array.replicate_succ, Array.replicate_zero, List.push_toArray, List.append_toArray, List.nil_append, List.cons_append]
  obtain ⟨wb, hwb⟩ : ∃ wb, wb = (((w.alloc (.cells #[.pointer none] 24)).alloc (.cells #[.int .i64 ways] 3)).alloc (.cells #[.int .i64 deep] 3)).alloc (.cells #[.slice none 0 0] 50) := ⟨_, rfl⟩
  have hB0 : Below w.heap.size w wb := by rw [hwb]; exact ((((Below.refl _ w).alloc (Nat.le_refl _) _).alloc (by simp) _).alloc (by simp; omega) _).alloc (by simp; omega) _
  have bX : Boxed wb w.heap.size 24 (.pointer none) := by rw [hwb]; exact (((Boxed.new w 24 (.pointer none)).alloc _).alloc _).alloc _
  have bD0 : Boxed wb (w.heap.size + 1 + 1) 3 (.int .i64 deep) := by
    have := (Boxed.new ((w.alloc (.cells #[.pointer none] 24)).alloc (.cells #[.int .i64 ways] 3)) 3 (.int .i64 deep)).alloc (.cells #[.slice none 0 0] 50)
    simp only [World.size_alloc] at this
    rw [hwb]; exact this
  have bT0 : Boxed wb (w.heap.size + 1 + 1 + 1) 50 (.slice none 0 0) := by
    have := Boxed.new (((w.alloc (.cells #[.pointer none] 24)).alloc (.cells #[.int .i64 ways] 3)).alloc (.cells #[.int .i64 deep] 3)) 50 (.slice none 0 0)
    simp only [World.size_alloc] at this
    rw [hwb]; exact this
  have HWB := hidd hwb
  clear hwb
  gi_upto_region 2 with fail
  rw [← HWB.out]
  have hszb : wb.heap.size = w.heap.size + 4 := by rw [HWB.out]; simp
  clear HWB
  obtain ⟨bt, hbt⟩ : ∃ b, b = w.heap.size + 1 + 1 + 1 := ⟨_, rfl⟩
  obtain ⟨bd, hbd⟩ : ∃ b, b = w.heap.size + 1 + 1 := ⟨_, rfl⟩
  obtain ⟨bw, hbw⟩ : ∃ b, b = w.heap.size + 1 := ⟨_, rfl⟩
  rw [← hbt] at bT0 ⊢
  rw [← hbd] at bD0 ⊢
  rw [← hbw]
  have hwl : w.heap.size < bw ∧ bw < bd ∧ bd < bt ∧ bt < wb.heap.size := by omega
  clear hbt hbd hbw hszb
  have cD := bD0.cell
  by_cases hdp : deep < 1
  · have hdd : decide (deep < 1) = true := decide_eq_true hdp
    have cT := bT0.cell
    gi_wp2
    exact ⟨.slice none 0 0, by simp [results, Try.f23, go_sem], rfl, hB0⟩
  · have hdd : decide (deep < 1) = false := decide_eq_false hdp
    have cX := bX.cell
    have HRK := hidd (placesF_any wb none)
    obtain ⟨Bn, hBn⟩ : ∃ Bn, Bn = wb.heap.size := ⟨_, rfl⟩
    rw [← hBn] at HRK
    have HBn := hidd hBn
    have hB1 : bt < Bn := by omega
    clear hBn
    gi_wp2_with (refine ⟨trivial, ?_⟩; gi_at_call 26; refine (callsIn_wide.2 HRK.out).mono ?_; rintro e W0 ⟨rfl, hcl, hsz, f0⟩)
    have f0' : Below wb.heap.size wb W0 := f0.mono (by have := HBn.out; omega)
    have f1 := hB0.trans (f0'.mono (by omega))
    have hB2 : Bn < W0.heap.size := by have := HBn.out; omega
    have H0 : Hid (TN w W0 bt 50 W0) := ⟨Boxed.trans' bT0 f0', f1, Nat.le_refl _⟩
    clear hsz f0 f0' HRK bT0 bX bD0 hB0 cX cD
    refine wpIn_rangeFunc_ownH (α := Nat) rfl (by decide) (gf := 32) (lb := #[.pointer (some ⟨Bn, 0, none⟩)]) rfl trivial (enters_of Try.func32 (by kernel_rfl) rfl)
      ((nil_ps W0).seq W0 Bn (Chg.refl _ _) hB2 hcl) KpD.trans (fun V l o o' hl hV hc _ => ⟨by simp, fun b hb => hb.elim⟩) (Below.refl _ _) (fun _ => rfl)
      (fun _ W => TN w W0 bt 50 W)
      (fun _ _ _ => False)
      ?hI ?hIx ?h0
      (fun z a' _ => a' = { tmps := #[.pointer none, .int .i64 ways, .int .i64 deep, .pointer (some ⟨w.heap.size, 0, none⟩), .pointer (some ⟨bw, 0, none⟩), .pointer (some ⟨bd, 0, none⟩), .slice none 0 0, .pointer (some ⟨bt, 0, none⟩), .int .i64 (z : Int), undef, .int .i64 deep, .bool false, undef, .pointer none, .func (.func 32) #[] #[.pointer (some ⟨Bn, 0, none⟩)], .int .i64 (z : Int), undef, undef, undef, undef, undef, undef, undef, undef, undef, undef, undef, undef, undef, undef, undef, undef, undef, undef, undef, undef, undef, undef, undef, undef, undef, undef, undef, undef, undef, undef, undef, undef, undef], defers := [] })
      ?hAx ?assign ?body ?done ?stop
    case hI =>
      rintro pre X Y row h1 hg hr
      exact TN.from_ (by omega) _ _ () X Y row h1 hg hr
    case hIx =>
      rintro cd pre X Y row h1 hg hr
      exact h1
    case h0 => exact H0.out
    case hAx =>
      rintro z a' u X Y row e1 hg hr
      exact e1
    case assign =>
      rintro l pre x W K hi hK
      have HI := hidd hi
      clear hi
      unfold encQ
      gi_wp2
      exact hK _ _ (KeepsFrom.refl _ _) (KpD.refl _ _) HI.out rfl
    case body =>
      rintro l pre x a' W hl hlr h1 rfl hlt
      exact absurd hlt (by simp)
    case done =>
      rintro D xs W hD hxs ⟨h1, h4, h5⟩ hW
      have c1 := h1.cell
      gi_wp2
      refine ⟨by simp, .inl ⟨_, _, rfl, run_takeDeferred hW, ?_⟩⟩
      exact ⟨.slice none 0 0, by simp [results, Try.f23, go_sem], rfl, h4.trans (belowK_b (w := w) (Nat.le_refl _) W D _ _ (by omega) hW rfl rfl)⟩
    case stop =>
      rintro D cd pre W hD hp h1 hW
      exact h1.elim
end Go.Proofs.Ytbpldnlafilbbab
