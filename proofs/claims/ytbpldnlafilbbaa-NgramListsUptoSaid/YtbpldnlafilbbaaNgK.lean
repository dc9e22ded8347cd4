import Derived.Test.YtbpldnlafilbbaaNgJ
import Derived.Test.YtbpldnlafilbbaaNgR
import Derived.Stop.RegionWithIn
import Derived.Sort.CutIn
import Derived.RangeFuncCalls
namespace Go.Proofs.Ytbpldnlafilbbaa
open Go.RowKit Go.Shelf
attribute [local go_sem] Oper.semAt_some
/-! Propose. -/
/-- how many tokens a chain has -/
def cnN (n d : Nat) (R : List (Int × Int)) (q : Nat) : Nat := min d (min (n - q) (96 - R.length))
/-- the raw tree of these places -/
def prR (tx : Nat → Int) (n d : Nat) (L : List Nat) : List (Int × Int) := L.foldl (fun R q => chR R (fun j => tx (q + j)) (cnN n d R q)) []
theorem prR_app (tx : Nat → Int) (n d : Nat) (L : List Nat) (q : Nat) : prR tx n d (L ++ [q]) = chR (prR tx n d L) (fun j => tx (q + j)) (cnN n d (prR tx n d L) q) := by
  unfold prR
  rw [List.foldl_append]
  rfl
theorem prR_len (tx : Nat → Int) (n d : Nat) (L : List Nat) : (prR tx n d L).length ≤ 96 := by
  have key : ∀ (L : List Nat) (R : List (Int × Int)), R.length ≤ 96 → (L.foldl (fun R q => chR R (fun j => tx (q + j)) (cnN n d R q)) R).length ≤ 96 := by
    intro L
    induction L with
    | nil => exact fun R h => h
    | cons q r ih =>
      intro R h
      rw [List.foldl_cons]
      refine ih _ ?_
      rw [chR_len]
      unfold cnN
      omega
  exact key L [] (by simp)
theorem prR_full {tx : Nat → Int} {n d : Nat} {L : List Nat} (h : (prR tx n d L).length = 96) : ∀ M, prR tx n d (L ++ M) = prR tx n d L
  | [] => by rw [List.append_nil]
  | q :: r => by
    have e : L ++ q :: r = (L ++ [q]) ++ r := by simp
    have e2 : prR tx n d (L ++ [q]) = prR tx n d L := by
      rw [prR_app, show cnN n d (prR tx n d L) q = 0 by unfold cnN; omega]
      rfl
    rw [e, prR_full (by rw [e2]; exact h) r, e2]
theorem prR_zero (tx : Nat → Int) (n : Nat) : ∀ L, prR tx n 0 L = [] := by
  have key : ∀ (L : List Nat) (R : List (Int × Int)), L.foldl (fun R q => chR R (fun j => tx (q + j)) (cnN n 0 R q)) R = R := by
    intro L
    induction L with
    | nil => exact fun R => rfl
    | cons q r ih =>
      intro R
      rw [List.foldl_cons, show cnN n 0 R q = 0 by unfold cnN; omega]
      exact ih R
  exact fun L => key L []
/-- what Propose answers -/
noncomputable def prO (tx : Nat → Int) (most n : Nat) (ways deep : Int) : List (Int × Int) := prR tx n deep.toNat ((plL tx most n).take ways.toNat)
theorem min3 {a b c m : Int} (h : m = min a (min b c)) (ats : Array TypeId) (ty : TypeId) (w : World) : (Builtin.min_ ats ty #[.int .i64 a, .int .i64 b, .int .i64 c]).run Try.prog w = .ok (.int .i64 m) w := by
  have : (Builtin.min_ ats ty #[.int .i64 a, .int .i64 b, .int .i64 c]).run Try.prog w = .ok (.int .i64 (if c < (if b < a then b else a) then c else (if b < a then b else a))) w := by simp [Builtin.min_, Builtin.min2]
  rw [this]
  congr 2
  rw [h]
  split <;> split <;> omega
structure PI (w W0 : World) (X bw bd bt : Nat) (tx : Nat → Int) (n : Nat) (ways deep : Int) (pre : List Nat) (m : Nat) (W : World) : Prop where
  ex : ∃ v, Boxed W bt 28 v ∧ Own W W0.heap.size 31 2 v (prR tx n deep.toNat pre).length (rwF (prR tx n deep.toNat pre))
  ways : Boxed W bw 3 (.int .i64 (ways - m))
  idx : Boxed W w.heap.size 24 (.pointer (some ⟨X, 0, none⟩))
  deep : Boxed W bd 3 (.int .i64 deep)
  low : Below w.heap.size w W
  size : W0.heap.size ≤ W.heap.size
structure PX (w W0 : World) (X bw bd bt : Nat) (tx : Nat → Int) (n : Nat) (ways deep : Int) (pre : List (Pn n)) (W : World) : Prop where
  ex : ∃ p0 x, pre = p0 ++ [x] ∧ PI w W0 X bw bd bt tx n ways deep (p0.map Pn.q) p0.length W ∧ (ways - (p0.length : Int) < 1 ∨ (prR tx n deep.toNat (p0.map Pn.q)).length = 96) ∧ ((p0.length : Int) ≤ ways ∨ p0 = [])
theorem PI.from {w W0 : World} (h : w.heap.size ≤ W0.heap.size) (Z bw bd bt : Nat) (tx : Nat → Int) (n : Nat) (ways deep : Int) (pre : List Nat) (m : Nat) : OwnFrom W0.heap.size (fun (_ : Unit) W => PI w W0 Z bw bd bt tx n ways deep pre m W) := by
  rintro u X Y row ⟨⟨v, h1, h2⟩, h3, h4, h5, h6, h7⟩ hg hr
  exact ⟨⟨v, boxed_own _ _ (fun (_ : Unit) => v) () X Y row h1 hg (fun r e => (hr r e).2), own_from _ _ _ _ _ _ _ () X Y row h2 hg hr⟩, boxed_own _ _ (fun (_ : Unit) => Value.int .i64 (ways - m)) () X Y row h3 hg (fun r e => (hr r e).2), boxed_own _ _ (fun (_ : Unit) => Value.pointer (some ⟨Z, 0, none⟩)) () X Y row h4 hg (fun r e => (hr r e).2), boxed_own _ _ (fun (_ : Unit) => Value.int .i64 deep) () X Y row h5 hg (fun r e => (hr r e).2), ownFrom_below (β := Unit) (Nat.le_refl _) h () X Y row h6 hg hr, Nat.le_trans h7 hg.size⟩
set_option maxRecDepth 100000 in
set_option maxHeartbeats 4000000 in
theorem propose_any {w : World} {X : Nat} {S : Nat → Prop} {most n : Nat} {tx : Nat → Int} {A : Nat → Nat} (h : Idx w X S most n tx A) (hn : n * 8 ≤ 140737488351232) (ways deep : Int) (hw1 : -9223372036854775808 ≤ ways ∧ ways ≤ 9223372036854775807) (hd1 : -9223372036854775808 ≤ deep ∧ deep ≤ 9223372036854775807) :
    Calls Try.prog 13 #[.pointer (some ⟨X, 0, none⟩), .int .i64 ways, .int .i64 deep] w fun e w' => ∃ v, e = .returned v ∧ Own w' w.heap.size 31 2 v (prO tx most n ways deep).length (rwF (prO tx most n ways deep)) ∧ Below w.heap.size w w' := by
  refine (callsIn_wide (n := 5)).1 ?_
  refine callsIn_of_wp_marks Try.func13 rfl trivial ?_ rfl
  simp only [Try.ntmps13, List.size_toArray, List.length_cons, List.length_nil, Nat.reduceAdd, Nat.reduceSub, Array.replicate_succ, Array.replicate_zero, List.push_toArray, List.append_toArray, List.nil_append, List.cons_append]
  obtain ⟨wb, hwb⟩ : ∃ wb, wb = (((w.alloc (.cells #[.pointer (some ⟨X, 0, none⟩)] 24)).alloc (.cells #[.int .i64 ways] 3)).alloc (.cells #[.int .i64 deep] 3)).alloc (.cells #[.slice none 0 0] 28) := ⟨_, rfl⟩
  have hB0 : Below w.heap.size w wb := by rw [hwb]; exact ((((Below.refl _ w).alloc (Nat.le_refl _) _).alloc (by simp) _).alloc (by simp; omega) _).alloc (by simp; omega) _
  have bX : Boxed wb w.heap.size 24 (.pointer (some ⟨X, 0, none⟩)) := by rw [hwb]; exact (((Boxed.new w 24 (.pointer (some ⟨X, 0, none⟩))).alloc _).alloc _).alloc _
  have bW0 : Boxed wb (w.heap.size + 1) 3 (.int .i64 ways) := by
    have := ((Boxed.new (w.alloc (.cells #[.pointer (some ⟨X, 0, none⟩)] 24)) 3 (.int .i64 ways)).alloc (.cells #[.int .i64 deep] 3)).alloc (.cells #[.slice none 0 0] 28)
    simp only [World.size_alloc] at this
    rw [hwb]; exact this
  have bD0 : Boxed wb (w.heap.size + 1 + 1) 3 (.int .i64 deep) := by
    have := (Boxed.new ((w.alloc (.cells #[.pointer (some ⟨X, 0, none⟩)] 24)).alloc (.cells #[.int .i64 ways] 3)) 3 (.int .i64 deep)).alloc (.cells #[.slice none 0 0] 28)
    simp only [World.size_alloc] at this
    rw [hwb]; exact this
  have bT0 : Boxed wb (w.heap.size + 1 + 1 + 1) 28 (.slice none 0 0) := by
    have := Boxed.new (((w.alloc (.cells #[.pointer (some ⟨X, 0, none⟩)] 24)).alloc (.cells #[.int .i64 ways] 3)).alloc (.cells #[.int .i64 deep] 3)) 28 (.slice none 0 0)
    simp only [World.size_alloc] at this
    rw [hwb]; exact this
  have HWB := hidd hwb
  clear hwb
  gi_upto_region 2 with fail
  rw [← HWB.out]
  have hszb : wb.heap.size = w.heap.size + 4 := by rw [HWB.out]; simp
  clear HWB
  obtain ⟨bt, hbt⟩ : ∃ b, b = w.heap.size + 1 + 1 + 1 := ⟨_, rfl⟩
  obtain ⟨bd, hbd⟩ : ∃ b, b = w.heap.size + 1 + 1 := ⟨_, rfl⟩
  obtain ⟨bw, hbw⟩ : ∃ b, b = w.heap.size + 1 := ⟨_, rfl⟩
  rw [← hbt] at bT0 ⊢
  rw [← hbd] at bD0 ⊢
  rw [← hbw] at bW0 ⊢
  have hwl : w.heap.size < bw ∧ bw < bd ∧ bd < bt ∧ bt < wb.heap.size := by omega
  clear hbt hbd hbw hszb
  have cD := bD0.cell
  by_cases hdp : deep < 1
  · have hdd : decide (deep < 1) = true := decide_eq_true hdp
    have cT := bT0.cell
    have e0 : prO tx most n ways deep = [] := by
      unfold prO
      rw [show deep.toNat = 0 by omega]
      exact prR_zero tx n _
    have HE0 := hidd e0
    clear e0
    gi_wp2
    refine ⟨.slice none 0 0, by simp [results, Try.f13, go_sem], _, rfl, ?_, hB0⟩
    rw [HE0.out]
    exact own_nil _ _ _ _ _
  · have hdd : decide (deep < 1) = false := decide_eq_false hdp
    have cX := bX.cell
    have HRK := hidd (placesF_any wb (some ⟨X, 0, none⟩))
    obtain ⟨Bn, hBn⟩ : ∃ Bn, Bn = wb.heap.size := ⟨_, rfl⟩
    rw [← hBn] at HRK
    have HBn := hidd hBn
    have hB1 : bt < Bn := by omega
    clear hBn
    have HI := hidd (h.fresh hB0)
    obtain ⟨M, Lb, tv, pv, hix⟩ := h.ex
    have HDL : Hid (∀ b, plD A n b → b < w.heap.size) := fun b ⟨q, h1, h2, e⟩ => by rw [e]; exact (hix.pls q h1 h2).lt
    have HIX := hidd hix
    obtain ⟨L, hLL⟩ := plL_sub tx most n
    have hLn : L.length ≤ n := by
      have := plL_len tx most n
      rw [← hLL] at this
      simpa using this
    have HLL := hidd hLL
    have HPO : Hid (prO tx most n ways deep = prR tx n deep.toNat ((L.take ways.toNat).map Pn.q)) := by
      show prO _ _ _ _ _ = _
      unfold prO
      rw [← hLL, List.map_take]
    obtain ⟨u0, tc, htv, htr⟩ := hix.tok.rd
    have hcell0 := hix.cells.1
    rw [htv] at hcell0
    have htle := htr.le
    have htt := htr.top
    unfold maxLen at htt
    have HTK : Hid (0 < n → ∃ tb, u0 = some ⟨tb, 0, none⟩ ∧ tb < w.heap.size ∧ ∀ j, j < n → w.cell? ⟨tb, j, none⟩ = some (.int .i64 (tx j))) := fun h0 => by
      have htok := hix.tok
      rw [htv] at htok
      obtain ⟨tb, g1, g2, g3, g4, g5⟩ := htok.at_ h0
      exact ⟨tb, g1, g3, fun j hj => g4 j (by omega)⟩
    have HC0 := hidd hcell0
    clear h hix hLL htr htv hcell0
    gi_wp2_with (refine ⟨trivial, ?_⟩; gi_at_call 27; refine (callsIn_wide.2 HRK.out).mono ?_; rintro e W0 ⟨rfl, hcl, hsz, f0⟩)
    have f0' : Below wb.heap.size wb W0 := f0.mono (by have := HBn.out; omega)
    have f1 := hB0.trans (f0'.mono (by omega))
    have hB2 : Bn < W0.heap.size := by have := HBn.out; omega
    have HI0 := hidd (HI.out.fresh f0')
    have H0 : Hid (PI w W0 X bw bd bt tx n ways deep [] 0 W0) := ⟨⟨_, Boxed.trans' bT0 f0', own_nil _ _ _ _ _⟩, by have := Boxed.trans' bW0 f0'; simpa using this, Boxed.trans' bX f0', Boxed.trans' bD0 f0', f1, Nat.le_refl _⟩
    clear hsz f0 f0' HRK HI bT0 bW0 bX bD0 hB0 cX cD
    refine wpIn_rangeFunc_ownH (α := Pn n) rfl (by decide) (gf := 31) (lb := #[.pointer (some ⟨Bn, 0, none⟩)]) rfl trivial (enters_of Try.func31 (by kernel_rfl) rfl)
      (iter_stopsP Bn X S most n tx A L HLL.out W0 (by omega) hcl HI0.out) KpD.trans (fun V l o o' hl hV hc _ => ⟨by simp, fun b hb => World.putObj_heap_other (by have := HDL.out b hb; omega)⟩) (Below.refl _ _) (fun _ => rfl)
      (fun pre W => PI w W0 X bw bd bt tx n ways deep (pre.map Pn.q) pre.length W ∧ ((pre.length : Int) ≤ ways ∨ pre = []))
      (fun cd pre W => cd = .exit 0 ∧ PX w W0 X bw bd bt tx n ways deep pre W)
      ?hI ?hIx ?h0
      (fun z a' _ => a' = { tmps := #[.pointer (some ⟨X, 0, none⟩), .int .i64 ways, .int .i64 deep, .pointer (some ⟨w.heap.size, 0, none⟩), .pointer (some ⟨bw, 0, none⟩), .pointer (some ⟨bd, 0, none⟩), .slice none 0 0, .pointer (some ⟨bt, 0, none⟩), .int .i64 (z.q : Int), undef, .int .i64 deep, .bool false, undef, .pointer (some ⟨X, 0, none⟩), .func (.func 31) #[] #[.pointer (some ⟨Bn, 0, none⟩)], .int .i64 (z.q : Int), undef, undef, undef, undef, undef, undef, undef, undef, undef, undef, undef, undef, undef, undef, undef, undef, undef, undef, undef, undef, undef, undef, undef, undef, undef, undef, undef, undef, undef, undef, undef, undef, undef], defers := [] })
      ?hAx ?assign ?body ?done ?stop
    case hI =>
      rintro pre X Y row ⟨h1, h2⟩ hg hr
      exact ⟨PI.from (by omega) _ _ _ _ tx n ways deep _ _ () X Y row h1 hg hr, h2⟩
    case hIx =>
      rintro cd pre X Y row ⟨h1, ⟨p0, x, h2, h3, h4, h5⟩⟩ hg hr
      exact ⟨h1, ⟨p0, x, h2, PI.from (by omega) _ _ _ _ tx n ways deep _ _ () X Y row h3 hg hr, h4, h5⟩⟩
    case h0 => exact ⟨H0.out, .inr rfl⟩
    case hAx =>
      rintro z a' u X Y row e1 hg hr
      exact e1
    case assign =>
      rintro l pre x W K hi hK
      have HI := hidd hi
      clear hi
      unfold encV
      gi_wp2
      exact hK _ _ (KeepsFrom.refl _ _) (KpD.refl _ _) HI.out rfl
    case body =>
      rintro l pre x a' W hl hlr ⟨hpi, h6⟩ rfl hlt
      obtain ⟨⟨v, h1, h2⟩, h3, h4, h5, h7, h8⟩ := id hpi
      have hO2 := h2
      obtain ⟨u, uc, rfl, hrd⟩ := h2.rd
      have c1 := h1.cell
      have c3 := h3.cell
      have hR96 := prR_len tx n deep.toNat (pre.map Pn.q)
      have HPI := hidd hpi
      by_cases hst : ways - (pre.length : Int) < 1
      · have hd : decide (ways - (pre.length : Int) < 1) = true := decide_eq_true hst
        clear hpi
        gi_wp2
        exact ⟨KeepsFrom.refl _ _, rfl, ⟨pre, x, rfl, HPI.out, .inl hst, h6⟩⟩
      · have hd : decide (ways - (pre.length : Int) < 1) = false := decide_eq_false hst
        by_cases hfl : (prR tx n deep.toNat (pre.map Pn.q)).length = 96
        · have hd2 : (((prR tx n deep.toNat (pre.map Pn.q)).length : Int) == 96) = true := by simp; omega
          clear hpi
          gi_wp2
          exact ⟨KeepsFrom.refl _ _, rfl, ⟨pre, x, rfl, HPI.out, .inr hfl, h6⟩⟩
        · have hd2 : (((prR tx n deep.toNat (pre.map Pn.q)).length : Int) == 96) = false := by simp; omega
          clear hpi
          have hxq := x.lo
          have hxn := x.hi
          obtain ⟨q, HQ⟩ : ∃ q, Hid (q = x.q) := ⟨_, rfl⟩
          rw [← HQ.out] at hxq hxn ⊢
          obtain ⟨R, hR⟩ : ∃ R, R = prR tx n deep.toNat (pre.map Pn.q) := ⟨_, rfl⟩
          have HR := hidd hR
          rw [← hR] at hR96 hfl hd2 h2 hO2 hrd h1 c1
          obtain ⟨tb, hu0, htb, htk⟩ := HTK.out (by omega)
          subst hu0
          have t0 : W.cell? ⟨X, 0, none⟩ = some (.slice (some ⟨tb, 0, none⟩) n tc) := (h7.cell (p := ⟨X, 0, none⟩) (lt_of_cell HC0.out)).trans HC0.out
          have c4 := h4.cell
          have c5 := h5.cell
          have f3 := h3.frozen
          have hwr : IntKind.i64.wrap (ways - (pre.length : Int) - 1) = ways - (pre.length : Int) - 1 := wrap_small _ (by omega) (by omega)
          obtain ⟨mn, hmn⟩ : ∃ mn, mn = cnN n deep.toNat R q := ⟨_, rfl⟩
          have HMN := hidd hmn
          have hmn1 : mn ≤ n - q ∧ R.length + mn ≤ 96 := by rw [hmn]; unfold cnN; omega
          have hm3 := min3 (a := deep) (b := (n : Int) - (q : Int)) (c := 96 - (R.length : Int)) (m := (mn : Int)) (by rw [hmn]; unfold cnN; omega)
          have e1 : IntKind.i64.wrap ((n : Int) - (q : Int)) = (n : Int) - (q : Int) := wrap_small _ (by omega) (by omega)
          have e2 : IntKind.i64.wrap (96 - (R.length : Int)) = 96 - (R.length : Int) := wrap_small _ (by omega) (by omega)
          clear hR hmn
          gi_wp2
          have b3 := h3.set (.int .i64 (ways - (pre.length : Int) - 1))
          have b1 := h1.other (B' := bw) (by omega) (.int .i64 (ways - (pre.length : Int) - 1))
          have b4 := h4.other (B' := bw) (by omega) (.int .i64 (ways - (pre.length : Int) - 1))
          have b5 := h5.other (B' := bw) (by omega) (.int .i64 (ways - (pre.length : Int) - 1))
          have hO3 : Own (W.setCell ⟨bw, 0, none⟩ (.int .i64 (ways - (pre.length : Int) - 1))) W0.heap.size 31 2 (.slice u R.length uc) R.length (rwF R) := ownsRow_setCell_below hO2 (a := ⟨bw, 0, none⟩) (by show bw < _; omega) _
          have l3 : Below w.heap.size w (W.setCell ⟨bw, 0, none⟩ (.int .i64 (ways - (pre.length : Int) - 1))) := h7.setCell (by show _ ≤ bw; omega) _
          have hs3 : W0.heap.size ≤ (W.setCell ⟨bw, 0, none⟩ (.int .i64 (ways - (pre.length : Int) - 1))).heap.size := by simpa using h8
          have k3 : KeepsOthers W (W.setCell ⟨bw, 0, none⟩ (.int .i64 (ways - (pre.length : Int) - 1))) := KeepsOthers.setCell _ _ _
          have kd3 : KpD (plD A n) W (W.setCell ⟨bw, 0, none⟩ (.int .i64 (ways - (pre.length : Int) - 1))) := ⟨by simp, fun b hb => by
            have := HDL.out b hb
            exact Below.heap_setCell _ _ _ _ (by show ¬ (_ = bw); omega)⟩
          clear t0 c1 c3 c4 c5 f3 h1 h2 h3 h4 h5 h7 h8 hO2 hrd
          generalize W.setCell ⟨bw, 0, none⟩ (.int .i64 (ways - (pre.length : Int) - 1)) = W2 at *
          have t0 : W2.cell? ⟨X, 0, none⟩ = some (.slice (some ⟨tb, 0, none⟩) n tc) := (l3.cell (p := ⟨X, 0, none⟩) (lt_of_cell HC0.out)).trans HC0.out
          have c1 := b1.cell
          have c4 := b4.cell
          have c5 := b5.cell
          refine wpIn_region_quietR (by kernel_rfl) (by kernel_rfl) (by kernel_rfl) ?_
          repeat (quiet_step_in (fail))
          refine wpQuietIn_nil ?_
          intro w9 hw9
          obtain ⟨nq, hw9⟩ := hw9
          subst hw9
          have fq := fresh_drewN W2 nq
          have hsq : (W2.drewN nq).heap.size = W2.heap.size := by simp [World.drewN]
          have hO4 := hO3.kept fq
          have b1' := Boxed.trans' b1 fq
          have b3' := Boxed.trans' b3 fq
          have b4' := Boxed.trans' b4 fq
          have b5' := Boxed.trans' b5 fq
          have l4 := l3.trans (fq.mono (by have := l3.size; omega))
          have hs4 : W0.heap.size ≤ (W2.drewN nq).heap.size := by omega
          have kq : KeepsOthers W (W2.drewN nq) := k3.trans ⟨fq.size, fun j o ho _ => (fq.block j (Array.getElem?_eq_some_iff.1 ho).1).trans ho⟩
          have kdq : KpD (plD A n) W (W2.drewN nq) := kd3.trans (KpD.of_below fq (fun b hb => by have := HDL.out b hb; have := l3.size; omega))
          clear t0 c1 c4 c5 b1 b3 b4 b5 hO3 l3 hs3 k3 kd3 fq hsq hm3 e1 e2
          generalize W2.drewN nq = W3 at *
          have t0 : W3.cell? ⟨X, 0, none⟩ = some (.slice (some ⟨tb, 0, none⟩) n tc) := (l4.cell (p := ⟨X, 0, none⟩) (lt_of_cell HC0.out)).trans HC0.out
          have c1 := b1'.cell
          have c4 := b4'.cell
          have e3 : IntKind.i64.wrap ((q : Int) + (mn : Int)) = (q : Int) + (mn : Int) := wrap_small _ (by omega) (by omega)
          have HCH := hidd (chain_any (w := W3.drew) (B := W0.heap.size) (hO4.kept (Below.refl _ W3).drew) (by simpa using hs4) (ao := some ⟨tb, q, none⟩) (m := mn) (c := tc - q) (t := fun j => tx (q + j)) ⟨by omega, by unfold maxLen; omega, fun _ => ⟨tb, q, rfl, fun j hj => (l4.drew.cell (p := ⟨tb, q + j, none⟩) htb).trans (htk (q + j) (by omega))⟩⟩ (fun b o e => by cases e; omega) (by omega))
          have j0 : (0 : Int) ≤ (q : Int) := by omega
          have j1 : (q : Int) ≤ (q : Int) + (mn : Int) := by omega
          have j2 : (q : Int) + (mn : Int) ≤ (tc : Int) := by omega
          have j3 : ¬ tc = q := by omega
          have j4 : ((q : Int) + (mn : Int) - (q : Int)).toNat = mn := by omega
          have j5 : q + mn - q = mn := by omega
          have j6 : ((q : Int) + (mn : Int)).toNat = q + mn := by omega
          gi_wp2
          have b1d : Boxed W3.drew bt 28 (.slice u R.length uc) := b1'
          have hbt : bt < W0.heap.size := by omega
          have HEND : Hid (∀ (w9 : World) (v' : Value), Own w9 W0.heap.size 31 2 v' (R.length + mn) (rwF (chR R (fun j => tx (q + j)) mn)) → Below W0.heap.size W3.drew w9 → KeepsOthers W3.drew w9 → (KeepsFrom W0.heap.size W (w9.setCell ⟨bt, 0, none⟩ v') ∧ KpD (plD A n) W (w9.setCell ⟨bt, 0, none⟩ v') ∧ PI w W0 X bw bd bt tx n ways deep ((pre ++ [x]).map Pn.q) (pre ++ [x]).length (w9.setCell ⟨bt, 0, none⟩ v') ∧ (((pre ++ [x]).length : Int) ≤ ways ∨ pre ++ [x] = [])) ∧ w9.cell? ⟨bt, 0, none⟩ = some (.slice u R.length uc) ∧ w9.frozen? ⟨bt, 0, none⟩ = false) := by
            intro w9 v' ho9 hb9 hk9
            have f9 : Below W0.heap.size W3 w9 := (Below.refl _ W3).drew.trans hb9
            have hB : ∀ {B : Nat} {t : TypeId} {v : Value}, B < W0.heap.size → Boxed W3 B t v → Boxed w9 B t v := fun hl h => (f9.block _ hl).trans h
            have g1 := hB (by omega) b1'
            have g3 := hB (by omega) b3'
            have g4 := hB (by omega) b4'
            have g5 := hB (by omega) b5'
            have hsz9 := f9.size
            have e0 : (pre ++ [x]).map Pn.q = pre.map Pn.q ++ [q] := by rw [List.map_append, HQ.out]; rfl
            have e1 : prR tx n deep.toNat ((pre ++ [x]).map Pn.q) = chR R (fun j => tx (q + j)) mn := by rw [e0, prR_app, ← HR.out, ← HMN.out]
            refine ⟨⟨((kq.trans (KeepsOthers.drew _)).trans (hk9.trans (KeepsOthers.setCell _ _ _))).from _, ?_, ⟨⟨v', g1.set _, ?_⟩, ?_, g4.other (by omega) _, g5.other (by omega) _, ?_, by simp; omega⟩, ?_⟩, g1.cell, g1.frozen⟩
            · refine (kdq.trans (KpD.of_below f9 (fun b hb => by have := HDL.out b hb; omega))).trans ⟨by simp, fun b hb => ?_⟩
              have := HDL.out b hb
              exact Below.heap_setCell _ _ _ _ (by show ¬ (_ = bt); omega)
            · rw [e1, chR_len]
              exact ownsRow_setCell_below ho9 (a := ⟨bt, 0, none⟩) (by show bt < _; omega) _
            · have := g3.other (B' := bt) (by omega) v'
              rw [show ways - (((pre ++ [x]).length : Nat) : Int) = ways - (pre.length : Int) - 1 by rw [List.length_append]; simp; omega]
              exact this
            · exact (l4.trans (f9.mono (by omega))).setCell (by show _ ≤ bt; omega) _
            · refine .inl ?_
              rw [List.length_append]
              simp
              omega
          have hwq : W3.drew = W3.drew := rfl
          clear hwq
          refine wpIn_region_outR (by kernel_rfl) rfl (by kernel_rfl) ?_
          refine wpAnyIn_take (i := 5) (v := ?v1) rfl rfl (by kernel_rfl) (by kernel_rfl) (by kernel_rfl) (fun _ _ _ h => h) ⟨Or.inl ⟨by rfl, ?hy1⟩, fun _ => rfl⟩ ?rest1
          case hy1 => (intro wz; go_simp; try with_reducible rfl)
          refine wpAnyIn_take (i := 6) (v := ?v2) rfl rfl (by kernel_rfl) (by kernel_rfl) (by kernel_rfl) (fun _ _ _ h => h) ⟨Or.inl ⟨by rfl, ?hy2⟩, fun _ => rfl⟩ ?rest2
          case hy2 => (intro wz; go_simp; try with_reducible rfl)
          refine wpAnyIn_take (i := 7) (v := ?v3) rfl rfl (by kernel_rfl) (by kernel_rfl) (by kernel_rfl) (fun _ _ _ h => h) ⟨Or.inl ⟨by rfl, ?hy3⟩, fun _ => rfl⟩ ?rest3
          case hy3 => (intro wz; go_simp; try with_reducible rfl)
          refine wpAnyIn_take (i := 8) (v := ?v4) rfl rfl (by kernel_rfl) (by kernel_rfl) (by kernel_rfl) (fun _ _ _ h => h) ⟨Or.inl ⟨by rfl, ?hy4⟩, fun _ => rfl⟩ ?rest4
          case hy4 => (intro wz; go_simp; try with_reducible rfl)
          refine wpAnyIn_ready (rs := [0, 1]) (by kernel_rfl) (by simp) ?_
          refine AllReadyIn.cons rfl (fun K hK => ?_) (AllReadyIn.cons rfl (fun K hK => ?_) AllReadyIn.nil)
          · go_simp
            refine hK _ _ ?_
            clear hK K
            refine wpAnyIn_ready (rs := [1]) (by kernel_rfl) (by simp) ?_
            refine AllReadyIn.cons rfl (fun K hK => ?_) AllReadyIn.nil
            go_simp
            refine hK _ _ ?_
            clear hK K
            refine wpAnyIn_ready (rs := [2]) (by kernel_rfl) (by simp) ?_
            refine AllReadyIn.cons rfl (fun K hK => ?_) AllReadyIn.nil
            go_simp
            refine hK _ _ ?_
            clear hK K
            refine wpAnyIn_ready (rs := [3]) (by kernel_rfl) (by simp) ?_
            refine AllReadyIn.cons rfl (fun K hK => ?_) AllReadyIn.nil
            go_simp
            refine hK _ _ ?_
            clear hK K
            refine wpAnyIn_ready (rs := [4]) (by kernel_rfl) (by simp) ?_
            refine AllReadyIn.cons rfl (fun K hK => ?_) AllReadyIn.nil
            go_simp
            refine hK _ _ ?_
            clear hK K
            refine wpAnyIn_ready (rs := [9]) (by kernel_rfl) (by simp) ?_
            refine AllReadyIn.cons rfl (fun K hK => ?_) AllReadyIn.nil
            go_simp
            refine hK _ _ ?_
            clear hK K
            refine wpAnyIn_ready (rs := [10]) (by kernel_rfl) (by simp) ?_
            refine AllReadyIn.cons rfl (fun K hK => ?_) AllReadyIn.nil
            go_simp
            refine ⟨trivial, ?_⟩
            refine (callsIn_wide.2 HCH.out).mono ?_
            rintro e w9 ⟨v', rfl, ho9, hb9, hk9⟩
            obtain ⟨u9, c9, rfl, hr9⟩ := ho9.rd
            obtain ⟨hE, cbt, fbt⟩ := HEND.out w9 _ ho9 hb9 hk9
            have HE := hidd hE
            clear ho9 hb9 hk9 hE hr9
            refine hK _ _ ?_
            clear hK K
            refine wpAnyIn_ready (rs := [11]) (by kernel_rfl) (by simp) ?_
            refine AllReadyIn.cons rfl (fun K hK => ?_) AllReadyIn.nil
            go_simp
            refine hK _ _ ?_
            clear hK K
            refine wpAnyIn_done (by kernel_rfl) ?_ _
            exact HE.out
          · go_simp
            refine hK _ _ ?_
            clear hK K
            refine wpAnyIn_take (i := 2) (v := ?v5) rfl rfl (by kernel_rfl) (by kernel_rfl) (by kernel_rfl) (fun _ _ _ h => h) ⟨Or.inl ⟨by rfl, ?hy5⟩, fun _ => rfl⟩ ?rest5
            case hy5 => (intro wz; go_simp; try with_reducible rfl)
            refine wpAnyIn_take (i := 3) (v := ?v6) rfl rfl (by kernel_rfl) (by kernel_rfl) (by kernel_rfl) (fun _ _ _ h => h) ⟨Or.inl ⟨by rfl, ?hy6⟩, fun _ => rfl⟩ ?rest6
            case hy6 => (intro wz; go_simp; try with_reducible rfl)
            refine wpAnyIn_ready (rs := [0, 4]) (by kernel_rfl) (by simp) ?_
            refine AllReadyIn.cons rfl (fun K hK => ?_) (AllReadyIn.cons rfl (fun K hK => ?_) AllReadyIn.nil)
            · go_simp
              refine hK _ _ ?_
              clear hK K
              refine wpAnyIn_ready (rs := [4]) (by kernel_rfl) (by simp) ?_
              refine AllReadyIn.cons rfl (fun K hK => ?_) AllReadyIn.nil
              go_simp
              refine hK _ _ ?_
              clear hK K
              refine wpAnyIn_ready (rs := [9]) (by kernel_rfl) (by simp) ?_
              refine AllReadyIn.cons rfl (fun K hK => ?_) AllReadyIn.nil
              go_simp
              refine hK _ _ ?_
              clear hK K
              refine wpAnyIn_ready (rs := [10]) (by kernel_rfl) (by simp) ?_
              refine AllReadyIn.cons rfl (fun K hK => ?_) AllReadyIn.nil
              go_simp
              refine ⟨trivial, ?_⟩
              refine (callsIn_wide.2 HCH.out).mono ?_
              rintro e w9 ⟨v', rfl, ho9, hb9, hk9⟩
              obtain ⟨u9, c9, rfl, hr9⟩ := ho9.rd
              obtain ⟨hE, cbt, fbt⟩ := HEND.out w9 _ ho9 hb9 hk9
              have HE := hidd hE
              clear ho9 hb9 hk9 hE hr9
              refine hK _ _ ?_
              clear hK K
              refine wpAnyIn_ready (rs := [11]) (by kernel_rfl) (by simp) ?_
              refine AllReadyIn.cons rfl (fun K hK => ?_) AllReadyIn.nil
              go_simp
              refine hK _ _ ?_
              clear hK K
              refine wpAnyIn_done (by kernel_rfl) ?_ _
              exact HE.out
            · go_simp
              refine hK _ _ ?_
              clear hK K
              refine wpAnyIn_take (i := 9) (v := ?v7) rfl rfl (by kernel_rfl) (by kernel_rfl) (by kernel_rfl) (fun _ _ _ h => h) ⟨Or.inl ⟨by rfl, ?hy7⟩, fun _ => rfl⟩ ?rest7
              case hy7 => (intro wz; go_simp; try with_reducible rfl)
              refine wpAnyIn_ready (rs := [0]) (by kernel_rfl) (by simp) ?_
              refine AllReadyIn.cons rfl (fun K hK => ?_) AllReadyIn.nil
              go_simp
              refine hK _ _ ?_
              clear hK K
              refine wpAnyIn_ready (rs := [10]) (by kernel_rfl) (by simp) ?_
              refine AllReadyIn.cons rfl (fun K hK => ?_) AllReadyIn.nil
              go_simp
              refine ⟨trivial, ?_⟩
              refine (callsIn_wide.2 HCH.out).mono ?_
              rintro e w9 ⟨v', rfl, ho9, hb9, hk9⟩
              obtain ⟨u9, c9, rfl, hr9⟩ := ho9.rd
              obtain ⟨hE, cbt, fbt⟩ := HEND.out w9 _ ho9 hb9 hk9
              have HE := hidd hE
              clear ho9 hb9 hk9 hE hr9
              refine hK _ _ ?_
              clear hK K
              refine wpAnyIn_ready (rs := [11]) (by kernel_rfl) (by simp) ?_
              refine AllReadyIn.cons rfl (fun K hK => ?_) AllReadyIn.nil
              go_simp
              refine hK _ _ ?_
              clear hK K
              refine wpAnyIn_done (by kernel_rfl) ?_ _
              exact HE.out
    case done =>
      rintro D xs W hD hx ⟨⟨⟨v, h1, h2⟩, h3, h4, h5, h7, h8⟩, h6⟩ hW
      have e1 : prO tx most n ways deep = prR tx n deep.toNat (xs.map Pn.q) := by
        rw [HPO.out, hx]
        congr 2
        rcases h6 with h | h
        · exact List.take_of_length_le (by rw [← hx]; omega)
        · rw [← hx, h]; simp
      have HE1 := hidd e1
      clear hx e1 HPO
      have hO2 := h2
      obtain ⟨u, uc, rfl, hrd⟩ := h2.rd
      have c1 := h1.cell
      gi_wp2
      refine ⟨by simp, .inl ⟨_, _, rfl, run_takeDeferred hW, ?_⟩⟩
      rw [HE1.out]
      have hgr := grownBy_putObj' W D (.deferred none)
      have ho9 := (own_from 0 _ _ _ _ _ _ () W _ (some D) hO2 hgr (fun r e => by cases e; exact ⟨Nat.zero_le _, _, hW, rfl⟩)).weaken (base' := w.heap.size) (by omega)
      exact ⟨_, by simp [results, Try.f13, go_sem], _, rfl, ho9, h7.trans (belowK_b (w := w) (Nat.le_refl _) W D _ _ (by omega) hW rfl rfl)⟩
    case stop =>
      rintro D cd pre W hD hp ⟨rfl, ⟨p0, x, hpe, hpi, hst, hle⟩⟩ hW
      obtain ⟨⟨v, h1, h2⟩, h3, h4, h5, h7, h8⟩ := hpi
      have e1 : prO tx most n ways deep = prR tx n deep.toNat (p0.map Pn.q) := by
        obtain ⟨r, hr⟩ := hp
        have hr2 : L = p0 ++ (x :: r) := by rw [← hr, hpe]; simp
        rw [HPO.out, hr2]
        rcases hle with hl | h0
        · rcases hst with h | h
          · rw [show ways.toNat = p0.length by omega]
            simp
          · rw [List.take_append, List.take_of_length_le (by omega), List.map_append]
            exact prR_full h _
        · subst h0
          rcases hst with h | h
          · rw [show ways.toNat = 0 by simp at h; omega]
            rfl
          · simp [prR] at h
      have HE1 := hidd e1
      clear hp hpe e1 HPO
      have hO2 := h2
      obtain ⟨u, uc, rfl, hrd⟩ := h2.rd
      have c1 := h1.cell
      gi_wp2
      refine ⟨by simp, .inl ⟨_, _, rfl, run_takeDeferred hW, ?_⟩⟩
      rw [HE1.out]
      have hgr := grownBy_putObj' W D (.deferred none)
      have ho9 := (own_from 0 _ _ _ _ _ _ () W _ (some D) hO2 hgr (fun r e => by cases e; exact ⟨Nat.zero_le _, _, hW, rfl⟩)).weaken (base' := w.heap.size) (by omega)
      exact ⟨_, by simp [results, Try.f13, go_sem], _, rfl, ho9, h7.trans (belowK_b (w := w) (Nat.le_refl _) W D _ _ (by omega) hW rfl rfl)⟩
end Go.Proofs.Ytbpldnlafilbbaa
