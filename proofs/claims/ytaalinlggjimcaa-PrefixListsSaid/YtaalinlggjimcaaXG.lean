import Derived.Test.YtaalinlggjimcaaXF
namespace Go.Proofs.Ytaalinlggjimcaa
open Go.RowKit
/-! use. -/
/-- a change of the known ones that leaves paths, blocks and places -/
structure Same (f : Nd → Nd) : Prop where
  path : ∀ x, (f x).path = x.path
  blk : ∀ x, (f x).blk = x.blk
  at_ : ∀ x, (f x).at_ = x.at_
theorem Same.lg {f : Nd → Nd} (h : Same f) (p : List (List Int)) : ∀ (L : List Nd), lg (L.map f) p = lg L p
  | [] => rfl
  | x :: r => by
    have ih := Same.lg h p r
    unfold Ytaalinlggjimcaa.lg at *
    simp only [List.map_cons, List.filter_cons, h.path x]
    split <;> simp [ih]
theorem Same.ptr {f : Nd → Nd} (h : Same f) (x : Nd) : (f x).ptr = x.ptr := by unfold Nd.ptr; rw [h.at_]
theorem Same.key {f : Nd → Nd} (h : Same f) (x : Nd) : (f x).key = x.key := by unfold Nd.key; rw [h.path]
theorem Same.ownF {f : Nd → Nd} (h : Same f) (i : Nat) : ∀ (L : List Nd), ownF (L.map f) i = ownF L i
  | [] => rfl
  | x :: r => by
    have ih := Same.ownF h i r
    unfold Ytaalinlggjimcaa.ownF at *
    simp only [List.map_cons, List.find?_cons, h.blk x]
    cases x.blk == i
    · exact ih
    · exact h.ptr x
open Classical in
theorem Same.grpL {f : Nd → Nd} (h : Same f) (k : Value) : ∀ (L : List Nd), grpL (L.map f) k = grpL L k
  | [] => rfl
  | x :: r => by
    have ih := Same.grpL h k r
    unfold Ytaalinlggjimcaa.grpL at *
    have e : decide ((f x).key = k) = decide (x.key = k) := by rw [h.key x]
    simp only [List.map_cons, List.filter_cons, e]
    split <;> simp [ih, h.ptr x]
theorem Same.adr {f : Nd → Nd} (h : Same f) {C : Nat} {L : List Nd} {p : List (List Int)} {b o : Nat} (ha : AdrOf C L p b o) : AdrOf C (L.map f) p b o := by
  rcases ha with e | ⟨x, hx, h1, h2, h3⟩
  · exact .inl e
  · exact .inr ⟨f x, List.mem_map.2 ⟨x, hx, rfl⟩, (h.path x).trans h1, by rw [h.at_]; exact h2, h3⟩
theorem Same.well {f : Nd → Nd} (h : Same f) {c : Ca} {L : List Nd} {N N' : Nat} (hw : Well c L N) (hu : ∀ x ∈ L, (f x).used ≤ N') : Well c (L.map f) N' := by
  have inj : ∀ x ∈ L, ∀ y ∈ L, f x = f y → x = y := fun x hx y hy e => hw.dat x hx y hy (by rw [← h.at_ x, e, h.at_ y])
  refine ⟨?_, ?_, ?_, ?_, ?_, ?_, ?_, map_nodup f L hw.nodup inj, ?_, ?_, hw.hS, hw.hB⟩
  · intro y hy; obtain ⟨x, hx, rfl⟩ := List.mem_map.1 hy; rw [h.path]; exact hw.ne x hx
  · intro y hy; obtain ⟨x, hx, rfl⟩ := List.mem_map.1 hy; rw [h.path]; exact hw.pcs x hx
  · intro y hy; obtain ⟨x, hx, rfl⟩ := List.mem_map.1 hy; rw [h.blk]; exact hw.blk x hx
  · intro y hy; obtain ⟨x, hx, rfl⟩ := List.mem_map.1 hy; rw [h.path]; exact hw.plen x hx
  · intro y hy z hz e; obtain ⟨x, hx, rfl⟩ := List.mem_map.1 hy; obtain ⟨u, hu', rfl⟩ := List.mem_map.1 hz; rw [h.blk, h.blk] at e; rw [hw.dblk x hx u hu' e]
  · intro y hy z hz e; obtain ⟨x, hx, rfl⟩ := List.mem_map.1 hy; obtain ⟨u, hu', rfl⟩ := List.mem_map.1 hz; rw [h.at_, h.at_] at e; rw [hw.dat x hx u hu' e]
  · intro y hy z hz e; obtain ⟨x, hx, rfl⟩ := List.mem_map.1 hy; obtain ⟨u, hu', rfl⟩ := List.mem_map.1 hz; rw [h.path, h.path] at e; rw [hw.dpath x hx u hu' e]
  · intro y hy; obtain ⟨x, hx, rfl⟩ := List.mem_map.1 hy; exact hu x hx
  · intro y hy; obtain ⟨x, hx, rfl⟩ := List.mem_map.1 hy; rw [h.path]
    rcases hw.up x hx with e | ⟨z, hz, e⟩
    · exact .inl e
    · exact .inr ⟨f z, List.mem_map.2 ⟨z, hz, rfl⟩, (h.path z).trans e⟩
theorem Groups.congr {w : World} {M O : Nat} {A : Nat → Prop} {G G' : Value → List Value} (h : Groups w M O A G) (e : ∀ k, G k = G' k) : Groups w M O A G' := by
  have : G = G' := funext e
  rw [← this]; exact h
theorem CacheAt.notT {w : World} {c : Ca} {A : Nat → Prop} {L : List Nd} {N : Nat} (h : CacheAt w c A L N) {b : Nat} (hb : b = c.C ∨ ∃ x ∈ L, b = x.at_) : b ≠ c.M ∧ b ≠ c.O ∧ ¬ ∃ cs fr, w.heap[b]? = some (.cells cs 76 fr) := by
  obtain ⟨t, cs, fr, hcs, ht⟩ : ∃ t cs fr, w.heap[b]? = some (.cells cs t fr) ∧ t ≠ 76 := by
    rcases hb with rfl | ⟨x, hx, rfl⟩
    · obtain ⟨y, hy, _⟩ := h.row
      exact ⟨_, _, _, hy, by decide⟩
    · obtain ⟨_, _, _, y, hy, _⟩ := h.node x hx
      exact ⟨_, _, _, hy, by decide⟩
  refine ⟨fun e => ?_, fun e => ?_, fun ⟨cs', fr', e⟩ => ?_⟩
  · subst e
    obtain ⟨es, clock, g⟩ := h.map
    rw [g.blk] at hcs
    cases hcs
  · subst e
    obtain ⟨y, hy, _⟩ := h.own
    rw [hy] at hcs
    cases hcs
    exact ht rfl
  · rw [e] at hcs
    cases hcs
    exact ht rfl
theorem CacheAt.re {w w' : World} {c : Ca} {A : Nat → Prop} {L : List Nd} {N N' : Nat} (h : CacheAt w c A L N) {f : Nd → Nd} (hf : Same f) (hu : ∀ x ∈ L, (f x).used ≤ N') {T : Nat → Prop} (k : Chg w w' T) (hT : ∀ b, T b → b = c.C ∨ ∃ x ∈ L, b = x.at_)
    (hrow : w'.rowIs c.C 80 26 (cacheF c.pg c.S (lg L []) c.M c.O c.B N'))
    (hnode : ∀ x ∈ L, ∀ sh, w.rowIs x.at_ 78 21 (nodeF x.path.length (lastP x.path) sh (lg L x.path) x.blk x.used) → w'.rowIs x.at_ 78 21 (nodeF x.path.length (lastP x.path) sh (lg L x.path) x.blk (f x).used)) : CacheAt w' c A (L.map f) N' := by
  refine ⟨by rw [hf.lg]; exact hrow, ?_, ?_, ?_, hf.well h.well hu, h.aC, h.aO, h.aM, ?_, fun b hb => Nat.lt_of_lt_of_le (h.low b hb) k.size⟩
  · exact (k.row h.own (fun t => (h.notT (hT _ t)).2.1 rfl)).congr (fun i _ => (hf.ownF i L).symm)
  · exact (h.map.chg k (fun t => (h.notT (hT _ t)).1 rfl) (fun b _ _ hp t => (h.notT (hT _ t)).2.2 hp)).congr (fun k => (hf.grpL k L).symm)
  · intro y hy
    obtain ⟨x, hx, rfl⟩ := List.mem_map.1 hy
    obtain ⟨b, o, ha, hr⟩ := h.node x hx
    refine ⟨b, o, ?_, ?_⟩
    · rw [hf.path]; exact hf.adr ha
    · rw [hf.path, hf.at_, hf.blk, hf.lg]; exact hnode x hx _ hr
  · intro y hy
    obtain ⟨x, hx, rfl⟩ := List.mem_map.1 hy
    rw [hf.at_]; exact h.aN x hx
/-- the calls are counted -/
theorem CacheAt.tick {w : World} {c : Ca} {A : Nat → Prop} {L : List Nd} {N : Nat} (h : CacheAt w c A L N) : CacheAt (w.setCell ⟨c.C, 25, none⟩ (.int .i64 ((N + 1 : Nat) : Int))) c A L (N + 1) := by
  have := h.re (f := id) ⟨fun _ => rfl, fun _ => rfl, fun _ => rfl⟩ (N' := N + 1) (fun x hx => Nat.le_succ_of_le (h.well.used x hx)) (Chg.of_set w c.C 25 (.int .i64 ((N + 1 : Nat) : Int))) (fun b e => .inl e) ((h.row.set 25 _).congr (fun i hi => ?_)) (fun x hx sh hr => hr.setOther ?_ _)
  · simpa using this
  · unfold cacheF
    by_cases e : i = 25
    · subst e; rfl
    · rw [if_neg e]
      simp only [if_neg e]
  · intro e
    exact type_apart h.row hr (by decide) e.symm
def mk1 (a n : Nat) (x : Nd) : Nd := if x.at_ = a then { x with used := n } else x
theorem mk1_same (a n : Nat) : Same (mk1 a n) := ⟨fun x => by unfold mk1; split <;> rfl, fun x => by unfold mk1; split <;> rfl, fun x => by unfold mk1; split <;> rfl⟩
theorem CacheAt.setUsed {w : World} {c : Ca} {A : Nat → Prop} {L : List Nd} {N n : Nat} (h : CacheAt w c A L N) {y : Nd} (hy : y ∈ L) (hn : n ≤ N) : CacheAt (w.setCell ⟨y.at_, 20, none⟩ (.int .i64 n)) c A (L.map (mk1 y.at_ n)) N := by
  obtain ⟨b, o, _, hry⟩ := h.node y hy
  refine h.re (mk1_same _ _) (fun x hx => ?_) (Chg.of_set w y.at_ 20 (.int .i64 n)) (fun b e => .inr ⟨y, hy, e⟩) (h.row.setOther ?_ _) (fun x hx sh hr => ?_)
  · unfold mk1
    split
    · exact hn
    · exact h.well.used x hx
  · exact fun e => type_apart h.row hry (by decide) e
  · by_cases e : x.at_ = y.at_
    · have := h.well.dat x hx y hy e
      subst this
      refine (hr.set 20 _).congr (fun i hi => ?_)
      unfold nodeF mk1
      by_cases e2 : i = 20
      · subst e2; simp
      · simp only [if_neg e2]
    · have := hr.setOther (a := ⟨y.at_, 20, none⟩) e (.int .i64 n)
      unfold mk1
      rw [if_neg e]
      exact this
/-- the beginnings of p that are longer than k -/
def mkF (p : List (List Int)) (k n : Nat) (x : Nd) : Nd := if x.path = p.take x.path.length ∧ k < x.path.length then { x with used := n } else x
theorem mkF_same (p : List (List Int)) (k n : Nat) : Same (mkF p k n) := ⟨fun x => by unfold mkF; split <;> rfl, fun x => by unfold mkF; split <;> rfl, fun x => by unfold mkF; split <;> rfl⟩
def useL (L : List Nd) (p : List (List Int)) (n : Nat) : List Nd := L.map (mkF p 0 n)
theorem mkF_top {L : List Nd} {p : List (List Int)} {n : Nat} : L.map (mkF p p.length n) = L := by
  have : ∀ x ∈ L, mkF p p.length n x = x := fun x _ => by
    unfold mkF
    rw [if_neg]
    rintro ⟨h1, h2⟩
    have := congrArg List.length h1
    rw [List.length_take] at this
    omega
  rw [List.map_congr_left this]; simp
theorem mkF_step {c : Ca} {L : List Nd} {N : Nat} (hw : Well c L N) {p : List (List Int)} {k n : Nat} {y : Nd} (hy : y ∈ L) (hp : y.path = p.take (k + 1)) (hk : k + 1 ≤ p.length) : (L.map (mkF p (k + 1) n)).map (mk1 y.at_ n) = L.map (mkF p k n) := by
  rw [List.map_map]
  refine List.map_congr_left (fun x hx => ?_)
  have hly : y.path.length = k + 1 := by rw [hp, List.length_take]; omega
  show mk1 y.at_ n (mkF p (k + 1) n x) = mkF p k n x
  by_cases e : x = y
  · subst e
    have : mkF p (k + 1) n x = x := by unfold mkF; rw [if_neg (by omega)]
    rw [this]
    unfold mk1 mkF
    rw [if_pos rfl, if_pos ⟨by rw [hly]; exact hp, by omega⟩]
  · have ha : x.at_ ≠ y.at_ := fun e2 => e (hw.dat x hx y hy e2)
    have : mk1 y.at_ n (mkF p (k + 1) n x) = mkF p (k + 1) n x := by unfold mk1; rw [(mkF_same p (k + 1) n).at_, if_neg ha]
    rw [this]
    unfold mkF
    by_cases h1 : x.path = p.take x.path.length
    · have : x.path.length ≠ k + 1 := fun e2 => e (hw.dpath x hx y hy (by rw [h1, e2, hp]))
      by_cases h2 : k + 1 < x.path.length
      · rw [if_pos ⟨h1, h2⟩, if_pos ⟨h1, by omega⟩]
      · rw [if_neg (by omega), if_neg (by omega)]
    · rw [if_neg (fun h => h1 h.1), if_neg (fun h => h1 h.1)]
/-- how long the one behind a pointer is -/
def lenOf (w : World) (v : Value) : Nat := match v with
  | .pointer (some a) => (match w.cell? a with | some (.int _ n) => n.toNat | _ => 0)
  | _ => 0
theorem lenOf_eq {w : World} {b o n : Nat} (h : w.cell? ⟨b, o, none⟩ = some (.int .i64 n)) : lenOf w (.pointer (some ⟨b, o, none⟩)) = n := by unfold lenOf; simp [h]
theorem take_drop {p : List (List Int)} {k : Nat} (h : k + 1 ≤ p.length) : (p.take (k + 1)).dropLast = p.take k := by
  rw [List.dropLast_eq_take, List.length_take, List.take_take]
  congr 1
  omega
set_option maxRecDepth 20000 in
set_option maxHeartbeats 1600000 in
theorem use_any {w : World} {c : Ca} {A : Nat → Prop} {L : List Nd} {N : Nat} (h : CacheAt w c A L N) (hN : N ≤ 4611686018427387904) {p : List (List Int)} {b o : Nat} (ha : AdrOf c.C L p b o) :
    Calls Try.prog 37 #[.pointer (some ⟨c.C, 0, none⟩), .pointer (some ⟨b, o, none⟩)] w fun e w' => e = .returned (.tuple #[]) ∧ CacheAt w' c A (useL L p (N + 1)) (N + 1) ∧ Chg w w' A := by
  obtain ⟨_, _, _, _, _, _, c25⟩ := h.cells
  have fC := h.row.frozen
  have H1 := hidd h.tick
  have HA := hidd ha
  have HW := hidd h.well
  have aC := h.aC
  clear h ha
  go_enter Try.func37, Try.ntmps37
  go_wp2
  clear c25 fC
  go_loopw [1] (fun v wr => ∃ k b o, k ≤ p.length ∧ v = .pointer (some ⟨b, o, none⟩) ∧ Hid (AdrOf c.C (L.map (mkF p k (N + 1))) (p.take k) b o) ∧ Hid (CacheAt wr c A (L.map (mkF p k (N + 1))) (N + 1)) ∧ Hid (Chg w wr A)) (fun v wr => lenOf wr v)
  case atStart => exact ⟨p.length, b, o, Nat.le_refl _, rfl, by show AdrOf _ _ _ _ _; rw [mkF_top, List.take_length]; exact HA.out, by show CacheAt _ _ _ _ _; rw [mkF_top]; exact H1.out, (Chg.of_set w c.C 25 _).imp (fun b _ e => by rw [e]; exact aC)⟩
  case round =>
    clear H1 HA
    obtain ⟨k, b, o, hk, rfl, HA, HC, HG⟩ := hrel
    obtain ⟨a0, _, _⟩ := HC.out.adr HA.out
    rw [List.length_take, Nat.min_eq_left hk] at a0
    cases k with
    | zero =>
      go_wp2
      go_end0
      exact ⟨rfl, HC.out, HG.out⟩
    | succ k =>
      rcases HA.out with ⟨e, _⟩ | ⟨x, hx, hxp, rfl, rfl⟩
      · have := congrArg List.length e
        rw [List.length_take, Nat.min_eq_left hk] at this
        simp at this
      · obtain ⟨b', o', ha', n0, n17, _, _, n20, _, _, fN⟩ := HC.out.nd hx
        rw [hxp, take_drop hk] at ha'
        obtain ⟨a0', _, _⟩ := HC.out.adr ha'
        rw [List.length_take, Nat.min_eq_left (by omega)] at a0'
        obtain ⟨_, _, _, _, _, _, c25⟩ := HC.out.cells
        have hCx : x.at_ ≠ c.C := fun e => by
          obtain ⟨_, _, _, hr⟩ := HC.out.node x hx
          exact type_apart HC.out.row hr (by decide) e.symm
        have m0 := lenOf_eq a0
        have H2 := hidd (HC.out.setUsed hx (n := N + 1) (Nat.le_refl _))
        obtain ⟨y, hy, hyx⟩ := List.mem_map.1 hx
        have hyp : y.path = p.take (k + 1) := by rw [← hxp, ← hyx, (mkF_same _ _ _).path]
        have hya : x.at_ = y.at_ := by rw [← hyx, (mkF_same _ _ _).at_]
        have ES := hidd (mkF_step HW.out (n := N + 1) hy hyp hk)
        rw [← hya] at ES
        have AX := HC.out.aN x hx
        have HA' := hidd ha'
        have m1 := hidd (lenOf_eq a0')
        clear a0' ha' hx hxp hyx hyp hya hy n0
        have eN : ((N + 1 : Nat) : Int) = (N : Int) + 1 := by push_cast; rfl
        rw [eN] at H2 c25
        go_wp2
        have HCC : CacheAt (wr.setCell ⟨x.at_, 20, none⟩ (.int .i64 ((N : Int) + 1))) c A (L.map (mkF p k (N + 1))) (N + 1) := by
          have := H2.out
          rw [ES.out] at this
          exact this
        have hb9 : AdrOf c.C (L.map (mkF p k (N + 1))) (p.take k) b' o' := by
          have := (mk1_same x.at_ (N + 1)).adr HA'.out
          rw [ES.out] at this
          exact this
        have m9 := HCC.adr hb9
        rw [List.length_take, Nat.min_eq_left (by omega)] at m9
        have m8 := lenOf_eq m9.1
        go_roundw
        case rel => exact ⟨k, b', o', by omega, rfl, hb9, HCC, HG.out.trans (Chg.of_set wr x.at_ 20 (.int .i64 ((N : Int) + 1))) (fun b _ e => by rw [e]; exact AX)⟩
        case measure =>
          show lenOf _ _ < lenOf _ _
          simp only [m0]
          exact Nat.lt_of_le_of_lt (Nat.le_of_eq m8) (Nat.lt_succ_self k)
end Go.Proofs.Ytaalinlggjimcaa
