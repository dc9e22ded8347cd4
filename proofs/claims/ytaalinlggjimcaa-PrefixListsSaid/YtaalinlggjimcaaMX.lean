import Derived.Test.YtaalinlggjimcaaXV
import Derived.Test.YtaalinlggjimcaaXU
import Derived.Test.YtaalinlggjimcaaXS
namespace Go.Proofs.Ytaalinlggjimcaa
open Go.RowKit
/-! works: a pool of two blocks of one, a block kept, found, and given up. -/
def tk8 : Nat → Int := fun i => if i = 0 then 7 else 8
theorem tk8_fits (i : Nat) : fits (tk8 i) := by
  unfold tk8 fits
  split <;> omega
theorem long_nil {C : Nat} {P : List (List Int)} {k b o : Nat} (h : Long C [] P k b o) : k = 0 := by
  rcases h.adr with ⟨e, _⟩ | ⟨x, hx, _⟩
  · have := congrArg List.length e
    have hl := h.le
    rw [List.length_take, Nat.min_eq_left hl] at this
    simpa using this
  · cases hx
/-- what was kept: one that is known -/
theorem ext_one {P : List (List Int)} {g : Nat → Nat} {L' news : List Nd} (h : Ext [] P g 0 1 L' news) : ∃ y, L' = [y] ∧ y.path = P.take 1 ∧ y.blk = g 0 ∧ y.used = 0 := by
  obtain ⟨y, hy, h1, h2, h3⟩ := h.at_ 0 (by omega)
  refine ⟨y, ?_, by simpa using h1, by simpa using h2, h3⟩
  rw [h.eq]
  have hl := h.len
  match news, hl, hy with
  | [z], _, hy => simp at hy; simp [hy]
structure One (L : List Nd) (y : Nd) : Prop where
  eq : L = [y]
  path : y.path = pcL tk8 1 1
  blk : y.blk = 0
theorem use_one {L : List Nd} {y : Nd} (h : One L y) (p : List (List Int)) (n : Nat) : ∃ z, One (useL L p n) z := by
  refine ⟨mkF p 0 n y, ?_, ?_, ?_⟩
  · rw [h.eq]; rfl
  · rw [(mkF_same _ _ _).path]; exact h.path
  · rw [(mkF_same _ _ _).blk]; exact h.blk
theorem one_long {C : Nat} {L : List Nd} {y : Nd} (h : One L y) {k b o : Nat} (hl : Long C L (pcL tk8 1 2) k b o) : k = 1 := by
  have hle := hl.le
  rw [pcL_len] at hle
  by_cases h0 : k = 0
  · exact absurd (by rw [h.path, pcL_take _ _ (by omega)]) (hl.no 1 (by omega) (by rw [pcL_len]; omega) y (by rw [h.eq]; simp))
  · by_cases h2 : k = 2
    · rcases hl.adr with ⟨e, _⟩ | ⟨x, hx, e, _⟩
      · have := congrArg List.length e
        rw [List.length_take, pcL_len] at this
        simp at this
        omega
      · rw [h.eq] at hx
        simp at hx
        subst hx
        have := congrArg List.length e
        rw [h.path, List.length_take, pcL_len, pcL_len] at this
        omega
    · omega
theorem one_lg {L : List Nd} {y : Nd} (h : One L y) : lg L y.path = 0 := by
  unfold lg
  rw [h.eq, List.length_eq_zero_iff, List.filter_eq_nil_iff]
  intro z hz
  simp at hz
  subst hz
  simp only [decide_eq_true_eq]
  intro e
  have := congrArg List.length e
  rw [h.path] at this
  simp [pcL_len] at this
theorem one_shr {L : List Nd} {y : Nd} (h : One L y) {cnt : Nat → Nat} (hc : cnt 0 = 1) {j : Nat} {L' : List Nd} {cnt' : Nat → Nat} (hs : Shr 2 L cnt j L' cnt') (h1 : (j : Int) ≤ 1 ∨ j = 0) (h2 : (1 : Int) ≤ j ∨ LeastTo L' cnt' 2 nilP) : j = 1 ∧ cnt' = updN cnt 0 0 := by
  cases hs with
  | nil =>
    rcases h2 with h2 | h2
    · omega
    · rcases h2 with ⟨_, hno⟩ | ⟨x, _, e, _⟩
      · exact absurd ⟨one_lg h, by rw [h.blk]; exact hc⟩ (hno y (by rw [h.eq]; simp) (by rw [h.blk]; omega))
      · cases e
  | step hs hx hl =>
    rename_i j L1 c1 x
    have : j = 0 := by omega
    subst this
    cases hs
    refine ⟨rfl, ?_⟩
    rw [h.eq] at hx
    simp at hx
    rw [hx, h.blk]
theorem new_2 (w : World) : Calls Try.prog 16 #[.int .i64 1, .int .i64 1, .int .i64 2, .int .i64 1] w fun e w' => ∃ g cb nb, e = .returned (.tuple #[.pointer (some ⟨g, 0, none⟩), .int .i64 0]) ∧ PoolAt w' g cb nb 1 1 2 1 (fun _ => 0) (fun _ => 0) ∧ (w.heap.size ≤ g ∧ w.heap.size ≤ cb ∧ w.heap.size ≤ nb) ∧ Below w.heap.size w w' :=
  new_any (L := 1) (W := 1) (B := 2) (S := 1) w (by omega) (by omega) (by omega) (by omega)
theorem take_2 {w : World} {g cb nb : Nat} (h : PoolAt w g cb nb 1 1 2 1 (fun _ => 0) (fun _ => 0)) : Calls Try.prog 17 #[.pointer (some ⟨g, 0, none⟩)] w fun e w' => e = .returned (.tuple #[.int .i64 0, .int .i64 0]) ∧ (∃ num, PoolAt w' g cb nb 1 1 2 1 (updN (fun _ => 0) 0 1) num) ∧ Chg w w' (fun x => x = cb ∨ x = nb) := by
  obtain ⟨q, n, T, G⟩ := h.geo
  refine (take_hit h G (b := 0) (by omega) rfl (fun j hj => absurd hj (by omega))).mono ?_
  rintro e w' ⟨rfl, hp, hc⟩
  exact ⟨rfl, ⟨_, hp⟩, hc⟩
end Go.Proofs.Ytaalinlggjimcaa
namespace Go.Proofs.Ytaalinlggjimcaa
open Go.RowKit
structure Wk (w0 : Nat) (w : World) (c : Ca) (A : Nat → Prop) (L : List Nd) (N cb nb a : Nat) (cnt : Nat → Nat) (num : Nat → Int) : Prop where
  cache : CacheAt w c A L N
  pool : PoolAt w c.pg cb nb 1 1 c.B 1 cnt num
  hS : c.S = 1
  hB : c.B = 2
  o1 : ¬ A c.pg
  o2 : ¬ A cb
  o3 : ¬ A nb
  lo : ∀ z, A z → w0 ≤ z
  l1 : w0 ≤ cb
  lw : w0 ≤ w.heap.size
  c0 : cnt 0 = a
  c1 : cnt 1 = 0
theorem Wk.fresh {w0 : Nat} {w w' : World} {c : Ca} {A : Nat → Prop} {L : List Nd} {N cb nb a : Nat} {cnt : Nat → Nat} {num : Nat → Int} (h : Wk w0 w c A L N cb nb a cnt num) (f : Below w.heap.size w w') : Wk w0 w' c A L N cb nb a cnt num :=
  ⟨h.cache.fresh f, h.pool.fresh f, h.hS, h.hB, h.o1, h.o2, h.o3, h.lo, h.l1, Nat.le_trans h.lw f.size, h.c0, h.c1⟩
theorem Wk.low {w0 : Nat} {w w' : World} {c : Ca} {A : Nat → Prop} {L : List Nd} {N cb nb a : Nat} {cnt : Nat → Nat} {num : Nat → Int} (h : Wk w0 w c A L N cb nb a cnt num) (k : Chg w w' (fun z => A z ∨ z = cb)) : Below w0 w w' :=
  k.below (Below.refl _ _) h.lw (fun z e => e.elim (h.lo z) (fun e => by rw [e]; exact h.l1))
theorem wk_new {w0 : Nat} {w : World} {g cb nb : Nat} (h : PoolAt w g cb nb 1 1 2 1 (fun _ => 0) (fun _ => 0)) (hg : w0 ≤ cb) (hl : w0 ≤ w.heap.size) :
    Calls Try.prog 10 #[.pointer (some ⟨g, 0, none⟩)] w fun e w' => ∃ c A, e = .returned (.pointer (some ⟨c.C, 0, none⟩)) ∧ c.pg = g ∧ PoolAt w' g cb nb 1 1 2 1 (fun _ => 0) (fun _ => 0) ∧ (∀ w2 num, PoolAt w2 g cb nb 1 1 2 1 (updN (fun _ => 0) 0 1) num → Chg w' w2 (fun x => x = cb ∨ x = nb) → Wk w0 w2 c A [] 0 cb nb 1 (updN (fun _ => 0) 0 1) num) ∧ Below w.heap.size w w' := by
  refine (pnew_any h).mono ?_
  rintro e w' ⟨c, A, rfl, hp, hS, hB, hC, hA, hf⟩
  have hlt : ∀ z, z < w.heap.size → ¬ A z := fun z hz e => by have := hA z e; omega
  refine ⟨c, A, rfl, hp, h.fresh hf, fun w2 num hp2 hc => ⟨hC.chg hc (fun z hz e => ?_), by rw [hp, hB]; exact hp2, hS, hB, by rw [hp]; exact hlt _ h.row.lt, hlt _ h.cnts.lt, hlt _ h.nums.lt, fun z hz => Nat.le_trans hl (hA z hz), hg, Nat.le_trans hl (Nat.le_trans hf.size hc.size), rfl, rfl⟩, hf⟩
  rcases e with rfl | rfl
  · exact hlt _ h.cnts.lt hz
  · exact hlt _ h.nums.lt hz
theorem rd_new1 (w : World) (x : Int) : RdA (w.alloc (.cells #[.int .i64 x] 3)) (some ⟨w.heap.size, 0, none⟩) 1 1 1 (fun _ => .int .i64 x) :=
  ⟨Nat.le_refl _, by unfold maxLen; omega, fun _ => ⟨_, 0, rfl, fun j hj => by
    obtain rfl : j = 0 := by omega
    exact new_cell _ _ _⟩⟩
theorem wk_keep {w0 : Nat} {w : World} {c : Ca} {A : Nat → Prop} {cb nb : Nat} {cnt : Nat → Nat} {num : Nat → Int} (h : Wk w0 w c A [] 0 cb nb 1 cnt num) :
    Calls Try.prog 12 #[.pointer (some ⟨c.C, 0, none⟩), .slice (some ⟨w.heap.size, 0, none⟩) 1 1, .slice (some ⟨w.heap.size + 1, 0, none⟩) 1 1] ((w.alloc (.cells #[.int .i64 7] 3)).alloc (.cells #[.int .i64 0] 3)) fun e w' => e = .returned (.int .i64 0) ∧ ∃ A' L' y cnt', One L' y ∧ Wk w0 w' c A' L' 1 cb nb 2 cnt' num ∧ Below w0 w w' := by
  have f1 := fresh_alloc w (.cells #[.int .i64 7] 3)
  have f2 := fresh_alloc (w.alloc (.cells #[.int .i64 7] 3)) (.cells #[.int .i64 0] 3)
  have h2 := h.fresh (fresh_trans f1 f2)
  have r1 := (rd_new1 w 7).fresh f2
  have r2 := rd_new1 (w.alloc (.cells #[.int .i64 7] 3)) 0
  rw [World.size_alloc] at r2
  have hs2 : ((w.alloc (.cells #[.int .i64 7] 3)).alloc (.cells #[.int .i64 0] 3)).heap.size = w.heap.size + 2 := by simp
  have hcbl : cb < w.heap.size := h.pool.cnts.lt
  have k := keep_ok (N := 0) h2.cache (by omega) h2.pool h2.o1 h2.o2 h2.o3 (T := 1) (t := tk8) (r1.congr (fun j hj => by
      obtain rfl : j = 0 := by omega
      rfl)) (fun i _ => tk8_fits i) (gn := fun _ => 0) (r2.congr (fun j hj => rfl)) (fun e => by have := h.cache.low _ e; omega) (by omega) (n := 1) (by rw [h.hS]) (by omega) (by rw [h.hB]; omega) (fun i hi => by rw [h.hB]; decide) (fun i hi => by rw [h.c0]; decide) (fun i hi => by rw [h.c0]; decide) (fun k b o hl => by
      have := long_nil hl
      subst this
      exact ⟨by omega, ⟨fun i _ x hx => (by cases hx), fun i j h1 h2 => (by omega)⟩⟩)
  refine k.mono ?_
  rintro e w' ⟨k, b, o, A', L', news, rfl, hl, hK⟩
  have := long_nil hl
  subst this
  have e1 : (pcL tk8 c.S 1).length - 0 = 1 := by rw [pcL_len]
  have hext := hK.ext
  have hpool := hK.pool
  rw [e1] at hext hpool
  obtain ⟨y, hy, h1, h3, _⟩ := ext_one hext
  have hone : One L' y := ⟨hy, by rw [h1, h.hS, pcL_take _ _ (Nat.le_refl _)], h3⟩
  obtain ⟨z, hz⟩ := use_one hone (pcL tk8 c.S 1) 1
  have hlo : ∀ z, A' z → w0 ≤ z := fun z hz => by
    rcases hK.dn z hz with h4 | h4
    · exact h.lo z h4
    · have := h2.lw; omega
  have nA : ∀ z, ¬ A z → z < w.heap.size → ¬ A' z := fun z h4 h5 h6 => by
    rcases hK.dn z h6 with h7 | h7
    · exact h4 h7
    · omega
  have hc1 := h.c1
  have hc0 := h.c0
  refine ⟨rfl, A', _, z, _, hz, ⟨hK.cache, hpool, h.hS, h.hB, nA _ h.o1 h.pool.row.lt, nA _ h.o2 hcbl, nA _ h.o3 h.pool.nums.lt, hlo, h.l1, Nat.le_trans h2.lw hK.chg.size, ?_, ?_⟩, (((Below.refl _ _).alloc h.lw _).alloc (by simp; have := h.lw; omega) _).trans (h2.low hK.chg)⟩
  · show addC cnt (fun _ => 0) 0 1 0 = 2
    simp [addC, updN, hc0]
  · show addC cnt (fun _ => 0) 0 1 1 = 0
    simp [addC, updN, hc1]
theorem rd_new2 (w : World) (x y : Int) : RdA (w.alloc (.cells #[.int .i64 x, .int .i64 y] 3)) (some ⟨w.heap.size, 0, none⟩) 1 2 2 (fun i => if i = 0 then .int .i64 x else .int .i64 y) :=
  ⟨Nat.le_refl _, by unfold maxLen; omega, fun _ => ⟨_, 0, rfl, fun j hj => by
    match j, hj with
    | 0, _ => simp
    | 1, _ => simp⟩⟩
theorem wk_find {w0 : Nat} {w : World} {c : Ca} {A : Nat → Prop} {L : List Nd} {y : Nd} {cb nb : Nat} {cnt : Nat → Nat} {num : Nat → Int} (h : Wk w0 w c A L 1 cb nb 2 cnt num) (ho : One L y) :
    Calls Try.prog 11 #[.pointer (some ⟨c.C, 0, none⟩), .slice (some ⟨w.heap.size, 0, none⟩) 2 2] (w.alloc (.cells #[.int .i64 7, .int .i64 8] 3)) fun e w' => ∃ g, e = .returned (.slice (some ⟨g, 0, none⟩) 1 1) ∧ w'.cell? ⟨g, 0, none⟩ = some (.int .i64 0) ∧ g ≠ cb ∧ ∃ L' z, One L' z ∧ Wk w0 w' c A L' 2 cb nb 2 cnt num ∧ Below w0 w w' := by
  have f1 := fresh_alloc w (.cells #[.int .i64 7, .int .i64 8] 3)
  have h1 := h.fresh f1
  have hcbl : cb < w.heap.size := h.pool.cnts.lt
  refine (find_any h1.cache (by omega) (T := 2) (t := tk8) ((rd_new2 w 7 8).congr (fun j hj => by unfold tk8; split <;> rfl)) (fun i _ => tk8_fits i)).mono ?_
  rintro e w' ⟨k, b, o, g, F, rfl, hl, hr, hF, hg, hC, hch⟩
  rw [h.hS] at hl hF
  have := one_long ho hl
  subst this
  obtain ⟨z, hz⟩ := use_one ho ((pcL tk8 c.S (2 / c.S)).take 1) (1 + 1)
  have hF0 := hF 0 (by omega) y (by rw [ho.eq]; simp) (by rw [ho.path, pcL_take _ _ (by omega)])
  have hc0 := hr.cell (i := 0) (by omega)
  rw [hF0, ho.blk] at hc0
  have hc2 : Chg (w.alloc (.cells #[.int .i64 7, .int .i64 8] 3)) w' (fun z => A z ∨ z = cb) := hch.imp (fun z _ e => Or.inl e)
  refine ⟨g, rfl, hc0, by have := f1.size; omega, _, z, hz, ⟨hC, h1.pool.chg hch h.o1 h.o2 h.o3, h.hS, h.hB, h.o1, h.o2, h.o3, h.lo, h.l1, Nat.le_trans h1.lw hch.size, h.c0, h.c1⟩, ((Below.refl _ _).alloc h.lw _).trans (h1.low hc2)⟩
theorem wk_drop {w0 : Nat} {w : World} {c : Ca} {A : Nat → Prop} {L : List Nd} {N cb nb : Nat} {cnt : Nat → Nat} {num : Nat → Int} (h : Wk w0 w c A L N cb nb 2 cnt num) {g : Nat} {v : Value} (hg : g ≠ cb) (hv : w.cell? ⟨g, 0, none⟩ = some v) :
    Calls Try.prog 19 #[.pointer (some ⟨c.pg, 0, none⟩), .int .i64 0] w fun e w' => e = .returned (.int .i64 0) ∧ w'.cell? ⟨g, 0, none⟩ = some v ∧ (∃ cnt', Wk w0 w' c A L N cb nb 1 cnt' num) ∧ Below w0 w w' := by
  refine (drop_ok h.pool (b := 0) (by rw [h.hB]; decide) (by rw [h.c0]; decide) (by rw [h.c0]; decide)).mono ?_
  rintro e w' ⟨rfl, hp, hc⟩
  refine ⟨rfl, hc.cell hv hg, ⟨_, h.cache.chg hc (fun z hz e => h.o2 (by rw [← (show z = cb from e)]; exact hz)), hp, h.hS, h.hB, h.o1, h.o2, h.o3, h.lo, h.l1, Nat.le_trans h.lw hc.size, ?_, ?_⟩, h.low (hc.imp (fun z _ e => Or.inr e))⟩
  · rw [updN_at, h.c0]
  · rw [updN_ne _ _ (by decide)]; exact h.c1
theorem wk_shrink {w0 : Nat} {w : World} {c : Ca} {A : Nat → Prop} {L : List Nd} {y : Nd} {N cb nb : Nat} {cnt : Nat → Nat} {num : Nat → Int} (h : Wk w0 w c A L N cb nb 1 cnt num) (ho : One L y) :
    Calls Try.prog 13 #[.pointer (some ⟨c.C, 0, none⟩), .int .i64 1] w fun e w' => e = .returned (.int .i64 1) ∧ (∃ L' cnt', Wk w0 w' c A L' N cb nb 0 cnt' num) ∧ Below w0 w w' := by
  refine (shrink_any h.cache h.pool h.o1 h.o2 h.o3 1).mono ?_
  rintro e w' ⟨j, rfl, L', cnt', hs, h1, h2, hC, hP, hch⟩
  rw [h.hB] at hs h2
  obtain ⟨rfl, hcn⟩ := one_shr ho h.c0 hs h1 h2
  refine ⟨rfl, ⟨L', cnt', hC, hP, h.hS, h.hB, h.o1, h.o2, h.o3, h.lo, h.l1, Nat.le_trans h.lw hch.size, ?_, ?_⟩, h.low hch⟩
  · rw [hcn, updN_at]
  · rw [hcn, updN_ne _ _ (by decide)]; exact h.c1
theorem wk_left {w0 : Nat} {w : World} {c : Ca} {A : Nat → Prop} {L : List Nd} {N cb nb : Nat} {cnt : Nat → Nat} {num : Nat → Int} (h : Wk w0 w c A L N cb nb 0 cnt num) :
    Calls Try.prog 24 #[.pointer (some ⟨c.pg, 0, none⟩)] w fun e w' => e = .returned (.int .i64 2) ∧ w' = w := by
  have hf : freeN cnt c.B = 2 := by
    rw [h.hB]
    simp [freeN, h.c0, h.c1]
  refine (left_any h.pool).mono ?_
  rintro e w' ⟨rfl, hw⟩
  exact ⟨by rw [hf]; rfl, hw⟩
set_option maxRecDepth 20000 in
set_option maxHeartbeats 1600000 in
theorem works_any (w : World) : Calls Try.prog 9 #[] w fun e w' => e = .returned (.bool true) ∧ Below w.heap.size w w' := by
  have H1 := hidd (new_2 w)
  go_enter Try.func9, Try.ntmps9
  go_wp2_with (first
    | (go_at_call 16; refine H1.out.mono ?_; rintro e w1 ⟨g, cb, nb, rfl, P1, ⟨hg1, hg2, hg3⟩, f1⟩; have H2 := hidd (wk_new (w0 := w.heap.size) P1 hg2 f1.size); clear P1)
    | (go_at_call 10; refine H2.out.mono ?_; rintro e w2 ⟨c, A, rfl, hpg, P2, HW, f2⟩; have H3 := hidd (take_2 P2); have HWW := hidd HW; clear HW P2; subst hpg)
    | (go_at_call 17; refine H3.out.mono ?_; rintro e w3 ⟨rfl, ⟨num, P3⟩, c3⟩; have W3 := HWW.out w3 num P3 c3; have H4 := hidd (wk_keep W3); have c3' := hidd c3; clear W3 c3 P3)
    | (go_at_call 12; refine H4.out.mono ?_; rintro e w4 ⟨rfl, A4, L4, y4, cnt4, ho4, W4, f4⟩; have H5 := hidd (wk_find W4 ho4); clear W4)
    | (go_at_call 11; refine H5.out.mono ?_; rintro e w5 ⟨g5, rfl, v5, hg5, L5, y5, ho5, W5, f5⟩; have H6 := hidd (wk_drop W5 hg5 v5); clear W5 v5)
    | (go_at_call 19; refine H6.out.mono ?_; rintro e w6 ⟨rfl, v6, ⟨cnt6, W6⟩, f6⟩; have H7 := hidd (wk_shrink W6 ho5); clear W6)
    | (go_at_call 13; refine H7.out.mono ?_; rintro e w7 ⟨rfl, ⟨L7, cnt7, W7⟩, f7⟩; have H8 := hidd (wk_left W7); clear W7)
    | (go_at_call 24; refine H8.out.mono ?_; rintro e w8 ⟨rfl, h8⟩; rw [h8]; clear h8))
  go_ret
  refine ⟨rfl, ?_⟩
  have f3 : Below w.heap.size w2 w3 := c3'.out.below (Below.refl _ _) (by have := f1.size; have := f2.size; omega) (fun z e => by rcases e with rfl | rfl <;> assumption)
  exact ((((((f1.trans (f2.mono f1.size)).trans f3).trans f4).trans f5).trans f6).trans f7)
end Go.Proofs.Ytaalinlggjimcaa
