import Derived.Test.YtaalinlggjimcaaXX
namespace Go.Proofs.Ytaalinlggjimcaa
open Go.RowKit
/-! PrefixOldest: one block a text; what is known, and the calls on it. -/
def sg (S i : Nat) : List (List Int) := pcL (fun _ => (i : Int)) S 1
theorem sg_len (S i : Nat) : (sg S i).length = 1 := pcL_len _ _ _
theorem sg_ne (S i : Nat) : sg S i ≠ [] := fun e => by have := congrArg List.length e; rw [sg_len] at this; simp at this
theorem sg_inj {S i j : Nat} (hS : 1 ≤ S) (h : sg S i = sg S j) : i = j := by
  have e := congrArg (fun l => (l.getD 0 []).getD 0 0) h
  simp [sg, pcL, cutI, List.range_succ, show 0 < S by omega] at e
  omega
theorem sg_drop (S i : Nat) : (sg S i).dropLast = [] := by
  rw [List.dropLast_eq_take, sg_len]; rfl
theorem sg_take (S i : Nat) : (sg S i).take 1 = sg S i := by rw [← sg_len S i, List.take_length]
/-- what is known -/
structure Old (L : List Nd) (S : Nat) (K : Nat → Prop) (U : Nat → Int) : Prop where
  path : ∀ x ∈ L, x.path = sg S x.blk
  fwd : ∀ x ∈ L, K x.blk
  bwd : ∀ i, K i → ∃ x ∈ L, x.blk = i
  use : ∀ x ∈ L, (x.used : Int) = U x.blk + 1
def updI (U : Nat → Int) (i : Nat) (x : Int) : Nat → Int := fun j => if j = i then x else U j
theorem old_use {L : List Nd} {S i N : Nat} {K : Nat → Prop} {U : Nat → Int} (hS : 1 ≤ S) (h1 : ∀ x ∈ L, x.path = sg S x.blk) (h2 : ∀ x ∈ L, K x.blk) (h3 : ∀ j, K j → ∃ x ∈ L, x.blk = j) (h4 : ∀ x ∈ L, x.blk ≠ i → (x.used : Int) = U x.blk + 1) : Old (useL L (sg S i) (N + 1)) S K (updI U i (N : Int)) := by
  have sm := mkF_same (sg S i) 0 (N + 1)
  refine ⟨fun x hx => ?_, fun x hx => ?_, fun j hj => ?_, fun x hx => ?_⟩
  · obtain ⟨y, hy, rfl⟩ := List.mem_map.1 hx
    rw [sm.path, sm.blk]; exact h1 y hy
  · obtain ⟨y, hy, rfl⟩ := List.mem_map.1 hx
    rw [sm.blk]; exact h2 y hy
  · obtain ⟨y, hy, e⟩ := h3 j hj
    exact ⟨_, List.mem_map.2 ⟨y, hy, rfl⟩, by rw [sm.blk]; exact e⟩
  · obtain ⟨y, hy, rfl⟩ := List.mem_map.1 hx
    rw [sm.blk]
    have hp := h1 y hy
    have hl : y.path.length = 1 := by rw [hp, sg_len]
    unfold mkF updI
    by_cases e : y.blk = i
    · rw [if_pos e, if_pos ⟨by rw [hl, sg_take, hp, e], by omega⟩]
      show ((N + 1 : Nat) : Int) = _
      omega
    · rw [if_neg e, if_neg (fun q => e (sg_inj hS (by rw [← hp, ← sg_take S i, ← hl]; exact q.1)))]
      exact h4 y hy e
theorem useL_nil {L : List Nd} {n : Nat} : useL L [] n = L := by
  unfold useL
  have : ∀ x ∈ L, mkF [] 0 n x = x := fun x _ => by
    unfold mkF
    rw [if_neg]
    rintro ⟨h1, h2⟩
    rw [h1] at h2
    simp at h2
  rw [List.map_congr_left this]
  simp
theorem Old.lg {L : List Nd} {S : Nat} {K : Nat → Prop} {U : Nat → Int} (h : Old L S K U) {x : Nd} (hx : x ∈ L) : lg L x.path = 0 := by
  unfold Ytaalinlggjimcaa.lg
  rw [List.length_eq_zero_iff, List.filter_eq_nil_iff]
  intro z hz
  simp only [decide_eq_true_eq]
  rw [h.path z hz, sg_drop, h.path x hx]
  exact fun e => sg_ne _ _ e.symm
/-- which is found -/
theorem old_long {C : Nat} {L : List Nd} {S i : Nat} {K : Nat → Prop} {U : Nat → Int} (hS : 1 ≤ S) (h : Old L S K U) {k b o : Nat} (hl : Long C L (sg S i) k b o) : (K i → k = 1) ∧ (¬ K i → k = 0) := by
  have hle := hl.le
  rw [sg_len] at hle
  refine ⟨fun hk => ?_, fun hk => ?_⟩
  · by_cases h0 : k = 0
    · obtain ⟨x, hx, e⟩ := h.bwd i hk
      exact absurd (by rw [h.path x hx, e, sg_take]) (hl.no 1 (by omega) (by rw [sg_len]; omega) x hx)
    · omega
  · by_cases h1 : k = 1
    · subst h1
      have ha := hl.adr
      rw [sg_take] at ha
      rcases ha with ⟨e, _⟩ | ⟨x, hx, e, _⟩
      · exact absurd e (sg_ne _ _)
      · refine absurd ?_ hk
        rw [h.path x hx] at e
        rw [← sg_inj hS e]
        exact h.fwd x hx
    · omega
/-- the scan's one -/
def Scan (U : Nat → Int) (old i : Nat) : Prop := ∀ j, j < i → 0 ≤ U j → 0 ≤ U old ∧ (U old < U j ∨ (U old = U j ∧ old ≤ j))
theorem scan_take {U : Nat → Int} {old i : Nat} (h : Scan U old i) (h0 : 0 ≤ U i) (h1 : U old < 0 ∨ U i < U old) : Scan U i (i + 1) := fun j hj hu => by
  by_cases e : j = i
  · subst e; exact ⟨h0, .inr ⟨rfl, Nat.le_refl _⟩⟩
  · obtain ⟨h2, h3⟩ := h j (by omega) hu
    refine ⟨h0, .inl ?_⟩
    rcases h1 with h1 | h1
    · omega
    · rcases h3 with h3 | h3 <;> omega
theorem scan_keep {U : Nat → Int} {old i : Nat} (h : Scan U old i) (ho : old ≤ i) (h1 : 0 ≤ U i → 0 ≤ U old ∧ U old ≤ U i) : Scan U old (i + 1) := fun j hj hu => by
  by_cases e : j = i
  · subst e
    obtain ⟨h2, h3⟩ := h1 hu
    refine ⟨h2, ?_⟩
    by_cases e : U old = U j
    · exact .inr ⟨e, ho⟩
    · exact .inl (by omega)
  · exact h j (by omega) hu
/-- the one that goes is the scan's one -/
theorem old_shr {c : Ca} {N : Nat} {L : List Nd} {S n old : Nat} {K : Nat → Prop} {U : Nat → Int} (hw : Well c L N) (h : Old L S K U) (hK : ∀ i, K i ↔ i < n ∧ 0 ≤ U i) (hn : n ≤ 200) (hne : 0 < L.length) (hon : old < n) (hs0 : Scan U old n) {cnt : Nat → Nat} (hc : ∀ i, K i → cnt i = 1) {j : Nat} {L' : List Nd} {cnt' : Nat → Nat} (hs : Shr 200 L cnt j L' cnt') (h1 : (j : Int) ≤ 1 ∨ j = 0) (h2 : (1 : Int) ≤ j ∨ LeastTo L' cnt' 200 nilP) :
    j = 1 ∧ cnt' = updN cnt old 0 ∧ L'.length + 1 = L.length ∧ K old ∧ Old L' S (fun i => K i ∧ i ≠ old) (updI U old (-1)) := by
  have hmay : ∀ x ∈ L, May L cnt x ∧ x.blk < 200 := fun x hx => ⟨⟨h.lg hx, hc _ (h.fwd x hx)⟩, by have := (hK _).1 (h.fwd x hx); omega⟩
  cases hs with
  | nil =>
    obtain ⟨x, hx⟩ := List.exists_mem_of_length_pos hne
    rcases h2 with h2 | h2
    · omega
    · rcases h2 with ⟨_, hno⟩ | ⟨x, _, e, _⟩
      · exact absurd (hmay x hx).1 (hno x hx (hmay x hx).2)
      · cases e
  | step hs hx hl =>
    rename_i j L1 c1 x
    have : j = 0 := by omega
    subst this
    cases hs
    have hxK := h.fwd x hx
    obtain ⟨hxn, hxu⟩ := (hK _).1 hxK
    obtain ⟨q1, q2⟩ := hs0 x.blk hxn hxu
    have hKo : K old := (hK _).2 ⟨hon, q1⟩
    have hxo : x.blk = old := by
      obtain ⟨y, hy, ey⟩ := h.bwd old hKo
      rcases hl with ⟨e1, _⟩ | ⟨x', hx', e1, _, _, hall⟩
      · cases e1
      · obtain rfl := hw.dat x hx x' hx' (ptr_inj e1)
        have ha := hall y hy (hmay y hy).2 (hmay y hy).1
        have u1 := h.use x hx
        have u2 := h.use y hy
        rw [ey] at u2
        unfold Ahead at ha
        rw [ey] at ha
        omega
    refine ⟨rfl, by rw [hxo], del_len hw.nodup hx, hKo, ⟨fun y hy => ?_, fun y hy => ?_, fun i hi => ?_, fun y hy => ?_⟩⟩
    · exact h.path y (mem_del.1 hy).1
    · obtain ⟨m1, m2⟩ := mem_del.1 hy
      exact ⟨h.fwd y m1, fun e => m2 (hw.dblk y m1 x hx (by rw [e, hxo]))⟩
    · obtain ⟨y, hy, e⟩ := h.bwd i hi.1
      exact ⟨y, mem_del.2 ⟨hy, fun e2 => hi.2 (by rw [← e, e2, hxo])⟩, e⟩
    · obtain ⟨m1, m2⟩ := mem_del.1 hy
      unfold updI
      rw [if_neg (fun e => m2 (hw.dblk y m1 x hx (by rw [e, hxo])))]
      exact h.use y m1
/-! the calls -/
structure Ow (w0 : Nat) (w : World) (c : Ca) (A : Nat → Prop) (L : List Nd) (N cb nb S : Nat) (cnt : Nat → Nat) (num : Nat → Int) (ub n : Nat) (U : Nat → Int) : Prop where
  cache : CacheAt w c A L N
  pool : PoolAt w c.pg cb nb 1 1 c.B S cnt num
  hS : c.S = S
  hB : c.B = 200
  o1 : ¬ A c.pg
  o2 : ¬ A cb
  o3 : ¬ A nb
  lo : ∀ z, A z → w0 ≤ z
  l1 : w0 ≤ cb
  l2 : w0 ≤ nb
  lw : w0 ≤ w.heap.size
  row : w.rowIs ub 3 n (fun i => .int .i64 (U i))
  u1 : ¬ A ub
  u2 : ub ≠ cb
  u3 : ub ≠ nb
  u4 : w0 ≤ ub
section
variable {w0 : Nat} {w w' : World} {c : Ca} {A : Nat → Prop} {L : List Nd} {N cb nb S : Nat} {cnt : Nat → Nat} {num : Nat → Int} {ub n : Nat} {U : Nat → Int}
theorem Ow.fresh (h : Ow w0 w c A L N cb nb S cnt num ub n U) (f : Below w.heap.size w w') : Ow w0 w' c A L N cb nb S cnt num ub n U :=
  ⟨h.cache.fresh f, h.pool.fresh f, h.hS, h.hB, h.o1, h.o2, h.o3, h.lo, h.l1, h.l2, Nat.le_trans h.lw f.size, (Chg.of_below (fun _ => False) f).row h.row id, h.u1, h.u2, h.u3, h.u4⟩
theorem Ow.low (h : Ow w0 w c A L N cb nb S cnt num ub n U) (k : Chg w w' (fun z => A z ∨ z = cb)) : Below w0 w w' :=
  k.below (Below.refl _ _) h.lw (fun z e => e.elim (h.lo z) (fun e => by rw [e]; exact h.l1))
theorem Ow.set (h : Ow w0 w c A L N cb nb S cnt num ub n U) (i : Nat) (x : Int) : Ow w0 (w.setCell ⟨ub, i, none⟩ (.int .i64 x)) c A L N cb nb S cnt num ub n (updI U i x) ∧ Below w0 w (w.setCell ⟨ub, i, none⟩ (.int .i64 x)) := by
  have k := Chg.of_set w ub i (.int .i64 x)
  have np : c.pg ≠ ub := type_apart h.pool.row h.row (by decide)
  refine ⟨⟨h.cache.chg k (fun z hz e => h.u1 (by rw [← (show z = ub from e)]; exact hz)), h.pool.chg k np (fun e => h.u2 e.symm) (fun e => h.u3 e.symm), h.hS, h.hB, h.o1, h.o2, h.o3, h.lo, h.l1, h.l2, Nat.le_trans h.lw k.size, ?_, h.u1, h.u2, h.u3, h.u4⟩, (Below.refl _ _).setCell h.u4 _⟩
  have := h.row.set i (.int .i64 x)
  refine this.congr (fun j hj => ?_)
  unfold updI
  split <;> rfl
theorem ow_take (h : Ow w0 w c A L N cb nb S cnt num ub n U) {i : Nat} (hi : i < 200) (h0 : cnt i = 0) (hl : ∀ j, j < i → cnt j ≠ 0) :
    Calls Try.prog 17 #[.pointer (some ⟨c.pg, 0, none⟩)] w fun e w' => e = .returned (.tuple #[.int .i64 i, .int .i64 0]) ∧ (∃ num', Ow w0 w' c A L N cb nb S (updN cnt i 1) num' ub n U) ∧ Below w0 w w' := by
  obtain ⟨q, nn, T, G⟩ := h.pool.geo
  refine (take_hit h.pool G (b := i) (by rw [h.hB]; exact hi) h0 hl).mono ?_
  rintro e w' ⟨rfl, hp, hc⟩
  refine ⟨rfl, ⟨_, h.cache.chg hc (fun z hz e => ?_), hp, h.hS, h.hB, h.o1, h.o2, h.o3, h.lo, h.l1, h.l2, Nat.le_trans h.lw hc.size, hc.row h.row (fun e => e.elim h.u2 h.u3), h.u1, h.u2, h.u3, h.u4⟩, hc.below (Below.refl _ _) h.lw (fun z e => by rcases e with rfl | rfl; exact h.l1; exact h.l2)⟩
  rcases e with rfl | rfl
  · exact h.o2 hz
  · exact h.o3 hz
theorem ow_drop (h : Ow w0 w c A L N cb nb S cnt num ub n U) {i : Nat} (hi : i < 200) (h0 : cnt i = 2) :
    Calls Try.prog 19 #[.pointer (some ⟨c.pg, 0, none⟩), .int .i64 i] w fun e w' => e = .returned (.int .i64 0) ∧ Ow w0 w' c A L N cb nb S (updN cnt i 1) num ub n U ∧ Below w0 w w' := by
  refine (drop_ok h.pool (b := i) (by rw [h.hB]; exact hi) (by omega) (by omega)).mono ?_
  rintro e w' ⟨rfl, hp, hc⟩
  rw [h0] at hp
  refine ⟨rfl, ⟨h.cache.chg hc (fun z hz e => h.o2 (by rw [← (show z = cb from e)]; exact hz)), hp, h.hS, h.hB, h.o1, h.o2, h.o3, h.lo, h.l1, h.l2, Nat.le_trans h.lw hc.size, hc.row h.row h.u2, h.u1, h.u2, h.u3, h.u4⟩, h.low (hc.imp (fun z _ e => Or.inr e))⟩
theorem sg_fits (i : Nat) (h : i < 9223372036854775807) : fits ((i : Nat) : Int) := by unfold fits; omega
theorem ow_keep (h : Ow w0 w c A L N cb nb S cnt num ub n U) {i g : Nat} (hr : w.rowIs g 3 S (fun _ => .int .i64 (i : Int))) {K : Nat → Prop} {V : Nat → Int} (ho : Old L S K V) (hk : ¬ K i) (hi : i < 200) (hc : cnt i = 1) (hN : N ≤ 4611686018427387904) :
    Calls Try.prog 12 #[.pointer (some ⟨c.C, 0, none⟩), .slice (some ⟨g, 0, none⟩) S S, .slice (some ⟨w.heap.size, 0, none⟩) 1 1] (w.alloc (.cells #[.int .i64 (i : Int)] 3)) fun e w' => e = .returned (.int .i64 0) ∧ (∃ A' L', Ow w0 w' c A' L' (N + 1) cb nb S (updN cnt i 2) num ub n U ∧ Old L' S (fun j => K j ∨ j = i) (updI V i (N : Int)) ∧ L'.length = L.length + 1) ∧ Below w0 w w' := by
  have f1 := fresh_alloc w (.cells #[.int .i64 (i : Int)] 3)
  have h1 := h.fresh f1
  have r1 : RdA (w.alloc (.cells #[.int .i64 (i : Int)] 3)) (some ⟨g, 0, none⟩) 1 S S (fun _ => .int .i64 ((i : Nat) : Int)) := (rowIs_rd hr (by have := h.pool.hS; unfold maxLen; omega)).fresh f1
  have r2 := rd_new1 w (i : Int)
  obtain ⟨hS1, hS2⟩ := h.cache.well.hS
  rw [h.hS] at hS1 hS2
  have hcbl : cb < w.heap.size := h.pool.cnts.lt
  have eP : pcL (fun _ => (i : Int)) c.S 1 = sg S i := by rw [h.hS]; rfl
  have hl0 : ∀ k b o, Long c.C L (pcL (fun _ => (i : Int)) c.S 1) k b o → k = 0 := fun k b o hl => by
    rw [eP] at hl
    exact (old_long hS1 ho hl).2 hk
  have k := keep_ok (N := N) h1.cache hN h1.pool h1.o1 h1.o2 h1.o3 (T := S) (t := fun _ => (i : Int)) r1 (fun _ _ => sg_fits i (by omega)) (gn := fun _ => i) (r2.congr (fun j hj => rfl)) (fun e => by have := h.cache.low _ e; omega) (by omega) (n := 1) (by rw [h.hS, Nat.div_self (by omega)]) (by omega) (by rw [h.hB]; omega) (fun _ _ => by rw [h.hB]; exact hi) (fun _ _ => by rw [hc]; decide) (fun _ _ => by rw [hc]; decide) (fun k b o hl => by
      have := hl0 k b o hl
      subst this
      exact ⟨by omega, ⟨fun _ _ x hx e => hk (by rw [← (show x.blk = i from e)]; exact ho.fwd x hx), fun i j h1 h2 => (by omega)⟩⟩)
  refine k.mono ?_
  rintro e w' ⟨k, b, o, A', L', news, rfl, hl, hK⟩
  have := hl0 _ _ _ hl
  subst this
  have e1 : (pcL (fun _ => (i : Int)) c.S 1).length - 0 = 1 := by rw [pcL_len]
  have hext := hK.ext
  have hpool := hK.pool
  rw [e1] at hext hpool
  have hlo : ∀ z, A' z → w0 ≤ z := fun z hz => by
    rcases hK.dn z hz with h4 | h4
    · exact h.lo z h4
    · have := h1.lw; omega
  have nA : ∀ z, ¬ A z → z < w.heap.size → ¬ A' z := fun z h4 h5 h6 => by
    rcases hK.dn z h6 with h7 | h7
    · exact h4 h7
    · have := f1.size; omega
  have hadd : addC cnt (fun _ => i) 0 1 = updN cnt i 2 := by
    show updN cnt i (cnt i + 1) = _
    rw [hc]
  rw [hadd] at hpool
  obtain ⟨y, hy, y1, y2, _⟩ := hext.at_ 0 (by omega)
  have hyn : news = [y] := by
    have hl := hext.len
    match news, hl, hy with
    | [z], _, hy => simp at hy; simp [hy]
  have hL' : L' = L ++ [y] := by rw [hext.eq, hyn]
  have y2 : y.blk = i := y2
  have y1 : y.path = sg S i := by rw [y1, eP]; exact sg_take S i
  refine ⟨rfl, ⟨A', useL L' (sg S i) (N + 1), ⟨by have := hK.cache; rw [eP] at this; exact this, hpool, h.hS, h.hB, nA _ h.o1 h.pool.row.lt, nA _ h.o2 hcbl, nA _ h.o3 h.pool.nums.lt, hlo, h.l1, h.l2, Nat.le_trans h1.lw hK.chg.size, hK.chg.row h1.row (fun e => e.elim h.u1 h.u2), nA _ h.u1 h.row.lt, h.u2, h.u3, h.u4⟩, ?_, ?_⟩, ((Below.refl _ _).alloc h.lw _).trans (h1.low hK.chg)⟩
  · refine old_use hS1 (fun x hx => ?_) (fun x hx => ?_) (fun j hj => ?_) (fun x hx hb => ?_)
    · rw [hL'] at hx
      rcases List.mem_append.1 hx with hx | hx
      · exact ho.path x hx
      · simp at hx; subst hx; rw [y1, y2]
    · rw [hL'] at hx
      rcases List.mem_append.1 hx with hx | hx
      · exact .inl (ho.fwd x hx)
      · simp at hx; subst hx; exact .inr y2
    · rw [hL']
      rcases hj with hj | rfl
      · obtain ⟨x, hx, e⟩ := ho.bwd j hj
        exact ⟨x, List.mem_append.2 (.inl hx), e⟩
      · exact ⟨y, List.mem_append.2 (.inr List.mem_cons_self), y2⟩
    · rw [hL'] at hx
      rcases List.mem_append.1 hx with hx | hx
      · exact ho.use x hx
      · simp at hx; subst hx; exact absurd y2 hb
  · unfold useL
    rw [List.length_map, hL']
    simp
theorem ow_find (h : Ow w0 w c A L N cb nb S cnt num ub n U) {i g : Nat} (hr : w.rowIs g 3 S (fun _ => .int .i64 (i : Int))) {K : Nat → Prop} {V : Nat → Int} (ho : Old L S K V) (hi : i < 200) (hN : N ≤ 4611686018427387904) :
    Calls Try.prog 11 #[.pointer (some ⟨c.C, 0, none⟩), .slice (some ⟨g, 0, none⟩) S S] w fun e w' => ∃ k g', e = .returned (.slice (some ⟨g', 0, none⟩) k k) ∧ (¬ K i → k = 0) ∧ (∃ L', Ow w0 w' c A L' (N + 1) cb nb S cnt num ub n U ∧ (K i → Old L' S K (updI V i (N : Int))) ∧ (¬ K i → L' = L) ∧ L'.length = L.length) ∧ Below w0 w w' := by
  obtain ⟨hS1, hS2⟩ := h.cache.well.hS
  rw [h.hS] at hS1 hS2
  refine (find_any h.cache hN (T := S) (t := fun _ => (i : Int)) (rowIs_rd hr (by unfold maxLen; omega)) (fun _ _ => sg_fits i (by omega))).mono ?_
  rintro e w' ⟨k, b, o, g', F, rfl, hl, hr', hF, hg, hC, hch⟩
  have eP : pcL (fun _ => (i : Int)) c.S (S / c.S) = sg S i := by rw [h.hS, Nat.div_self (by omega)]; rfl
  rw [eP] at hl hC
  obtain ⟨k1, k2⟩ := old_long hS1 ho hl
  have hc2 : Chg w w' (fun z => A z ∨ z = cb) := hch.imp (fun z _ e => Or.inl e)
  refine ⟨k, g', rfl, k2, ⟨_, ⟨hC, h.pool.chg hch h.o1 h.o2 h.o3, h.hS, h.hB, h.o1, h.o2, h.o3, h.lo, h.l1, h.l2, Nat.le_trans h.lw hch.size, hch.row h.row h.u1, h.u1, h.u2, h.u3, h.u4⟩, fun hk => ?_, fun hk => ?_, by unfold useL; rw [List.length_map]⟩, h.low hc2⟩
  · rw [k1 hk, sg_take]
    exact old_use hS1 ho.path ho.fwd ho.bwd (fun x hx _ => ho.use x hx)
  · rw [k2 hk]
    exact useL_nil
theorem ow_shrink (h : Ow w0 w c A L N cb nb S cnt num ub n U) {K : Nat → Prop} (ho : Old L S K U) (hK : ∀ i, K i ↔ i < n ∧ 0 ≤ U i) (hn : n ≤ 200) (hne : 0 < L.length) {old : Nat} (hon : old < n) (hs0 : Scan U old n) (hc : ∀ i, K i → cnt i = 1) :
    Calls Try.prog 13 #[.pointer (some ⟨c.C, 0, none⟩), .int .i64 1] w fun e w' => e = .returned (.int .i64 1) ∧ (∃ L', Ow w0 w' c A L' N cb nb S (updN cnt old 0) num ub n U ∧ Old L' S (fun i => K i ∧ i ≠ old) (updI U old (-1)) ∧ L'.length + 1 = L.length) ∧ Below w0 w w' := by
  refine (shrink_any h.cache h.pool h.o1 h.o2 h.o3 1).mono ?_
  rintro e w' ⟨j, rfl, L', cnt', hs, h1, h2, hC, hP, hch⟩
  rw [h.hB] at hs h2
  obtain ⟨rfl, hcn, hlen, hKo, hold⟩ := old_shr h.cache.well ho hK hn hne hon hs0 hc hs h1 h2
  rw [hcn] at hP
  exact ⟨rfl, ⟨L', ⟨hC, hP, h.hS, h.hB, h.o1, h.o2, h.o3, h.lo, h.l1, h.l2, Nat.le_trans h.lw hch.size, hch.row h.row (fun e => e.elim h.u1 h.u2), h.u1, h.u2, h.u3, h.u4⟩, hold, hlen⟩, h.low hch⟩
end
set_option maxRecDepth 20000 in
set_option maxHeartbeats 1600000 in
theorem single_any (w : World) (i S : Nat) (hS : 1 ≤ S ∧ S ≤ 16) :
    Calls Try.prog 18 #[.int .i64 (i : Int), .int .i64 (S : Int)] w fun e w' => e = .returned (.slice (some ⟨w.heap.size, 0, none⟩) S S) ∧ w'.rowIs w.heap.size 3 S (fun _ => .int .i64 (i : Int)) ∧ Below w.heap.size w w' := by
  obtain ⟨iI, hiI, zI0, zI1, zI2⟩ := info_parts infoI
  obtain ⟨hS1, hS2⟩ := hS
  have hmk : ∀ w, (Instr.makeSlice 22 (.int .i64 (S : Int)) (.int .i64 (S : Int))).run Try.prog w = .ok (.slice (some ⟨w.heap.size, 0, none⟩) S S) (w.alloc (.cells (madeCells #[.int .i64 0] S) 3)) := run_make_row 22 3 iI (.int .i64 0) Try.underlying22 hiI zI0 zI1 rfl .i64 .i64 S (by rw [zI2]; omega) (by omega)
  clear hiI zI0 zI1 zI2
  have R0 := World.rowIs_made w (.int .i64 0) S 3
  have f0 := fresh_alloc w (.cells (madeCells #[.int .i64 0] S) 3)
  go_enter Try.func18, Try.ntmps18
  go_wp2
  clear hmk
  go_loopw [6] (fun v wr => ∃ (k : Nat) (F : Nat → Value), k ≤ S ∧ v = .int .i64 (k : Int) ∧ wr.rowIs w.heap.size 3 S F ∧ Hid (∀ j, j < k → F j = .int .i64 (i : Int)) ∧ Below w.heap.size w wr) (fun v _ => S - (intOf v).toNat)
  case atStart => exact ⟨0, _, by omega, rfl, R0, fun j h => absurd h (by omega), f0⟩
  case round =>
    clear R0 f0
    obtain ⟨k, F, hk, rfl, hrow, HF, hf⟩ := hrel
    by_cases hlt : k < S
    · have d := hrow.cell (i := k) hlt
      have fr := hrow.frozen
      have HR := hidd hrow
      have i0 : (0 : Int) ≤ (k : Int) := by omega
      have i1 : (k : Int) < (S : Int) := by omega
      clear hrow hk
      go_wp2
      have hr9 := (HR.out.set k (.int .i64 (i : Int)))
      have hf9 : Below w.heap.size w (wr.setCell ⟨w.heap.size, k, none⟩ (.int .i64 (i : Int))) := hf.setCell (Nat.le_refl _) _
      go_roundw
      case rel =>
        refine ⟨k + 1, _, by omega, by go_num, hr9, fun j hj => ?_, hf9⟩
        by_cases e : j = k
        · simp [e]
        · simp only [if_neg e]
          exact HF.out j (by omega)
      case measure => simp [intOf]; omega
    · obtain rfl : S = k := by omega
      go_wp2
      go_ret
      exact ⟨rfl, hrow.congr (fun j hj => HF.out j hj), hf⟩
end Go.Proofs.Ytaalinlggjimcaa
