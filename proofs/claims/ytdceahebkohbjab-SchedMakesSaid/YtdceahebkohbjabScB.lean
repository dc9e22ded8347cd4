import Derived.Test.YtdceahebkohbjabScA
import Derived.Test.YtdceahebkohbjabScSo
import Derived.Lib.SliceRun
namespace Go.Proofs.Ytdceahebkohbjab
open Go.RowKit Go.Shelf
open Go.Sort hiding Below
/-! Seats in memory; Clone, SortFunc, oldestFirst. -/
theorem infoI : (Try.prog.info? 3).map (fun i => (i.zero, i.size, i.bytes)) = some (some (.int .i64 0), 1, 8) := by kernel_rfl
theorem infoSe : (Try.prog.info? 32).map (fun i => (i.zero, i.size, i.bytes)) = some (some (.agg #[.int .i64 0, .int .i64 0, .int .i64 0, .int .i64 0, .slice none 0 0]), 5, 56) := by kernel_rfl
def enS (s : Se) : List Value := [.int .i64 s.id, .int .i64 s.kn, .int .i64 s.ca, .int .i64 s.wa, .slice s.ho s.hn s.hc]
def seV (s : Se) : Value := .agg #[.int .i64 s.id, .int .i64 s.kn, .int .i64 s.ca, .int .i64 s.wa, .slice s.ho s.hn s.hc]
def seC (s : Se) (i : Nat) : Value := if i = 0 then .int .i64 s.id else if i = 1 then .int .i64 s.kn else if i = 2 then .int .i64 s.ca else if i = 3 then .int .i64 s.wa else .slice s.ho s.hn s.hc
def seF (S : Nat → Se) (j : Nat) : Value := seC (S (j / 5)) (j % 5)
theorem seF_at (S : Nat → Se) (i k : Nat) (hk : k < 5) : seF S (i * 5 + k) = seC (S i) k := by
  unfold seF
  rw [show (i * 5 + k) / 5 = i by omega, show (i * 5 + k) % 5 = k by omega]
theorem seC_one (s : Se) (k : Nat) : (seC s k).oneCell' = true := by
  unfold seC
  split
  · rfl
  · split
    · rfl
    · split
      · rfl
      · split <;> rfl
theorem seF_one (S : Nat → Se) (j : Nat) : (seF S j).oneCell' = true := seC_one _ _
theorem own_rda {w : World} {base : Nat} {e : TypeId} {sz : Nat} {u : Option Addr} {m c n : Nat} {cs : Nat → Value} (h : Own w base e sz (.slice u m c) n cs) : RdA w u sz n c cs := by
  obtain ⟨u', c', e', hr⟩ := h.rd
  cases e'
  exact hr
theorem RdA.seat {w : World} {ao : Option Addr} {n cap : Nat} {S : Nat → Se} (h : RdA w ao 5 n cap (seF S)) (hn : 0 < n) : ∃ b o, ao = some ⟨b, o, none⟩ ∧ ∀ i, i < n → w.cell? ⟨b, o + i * 5, none⟩ = some (.int .i64 (S i).id) ∧ w.cell? ⟨b, o + i * 5 + 1, none⟩ = some (.int .i64 (S i).kn) ∧ w.cell? ⟨b, o + i * 5 + 2, none⟩ = some (.int .i64 (S i).ca) ∧ w.cell? ⟨b, o + i * 5 + 3, none⟩ = some (.int .i64 (S i).wa) ∧ w.cell? ⟨b, o + i * 5 + 4, none⟩ = some (.slice (S i).ho (S i).hn (S i).hc) := by
  obtain ⟨b, o, e, hc⟩ := h.at_ hn
  refine ⟨b, o, e, fun i hi => ?_⟩
  have c0 := hc (i * 5 + 0) (by omega)
  have c1 := hc (i * 5 + 1) (by omega)
  have c2 := hc (i * 5 + 2) (by omega)
  have c3 := hc (i * 5 + 3) (by omega)
  have c4 := hc (i * 5 + 4) (by omega)
  rw [seF_at _ _ _ (by omega)] at c0
  rw [seF_at _ _ _ (by omega), ← Nat.add_assoc] at c1
  rw [seF_at _ _ _ (by omega), ← Nat.add_assoc] at c2
  rw [seF_at _ _ _ (by omega), ← Nat.add_assoc] at c3
  rw [seF_at _ _ _ (by omega), ← Nat.add_assoc] at c4
  exact ⟨c0, c1, c2, c3, c4⟩
/-- a list of seats, and the blocks of each -/
structure SeA (w : World) (ao : Option Addr) (n cap : Nat) (S : Nat → Se) : Prop where
  rd : RdA w ao 5 n cap (seF S)
  hd : ∀ i, i < n → RdA w (S i).ho 1 (S i).hn (S i).hc (fun j => .int .i64 ((S i).H j))
theorem SeA.fresh {w w' : World} {ao : Option Addr} {n cap : Nat} {S : Nat → Se} (h : SeA w ao n cap S) (f : Below w.heap.size w w') : SeA w' ao n cap S := ⟨h.rd.fresh f, fun i hi => (h.hd i hi).fresh f⟩
theorem eqNil_S (a : Addr) (n k : Nat) (w : World) : (binOp .eql 24 (.slice (some a) n k) (.slice none 0 0)).run Try.prog w = .ok (.bool false) w := by
  exact Lib.run_eql_slice_nil (P := Try.prog) w 24 32 (some a) n k 0 0 Try.underlying24
theorem eqNil_S0 (w : World) : (binOp .eql 24 (.slice none 0 0) (.slice none 0 0)).run Try.prog w = .ok (.bool true) w := by
  exact Lib.run_eql_slice_nil (P := Try.prog) w 24 32 none 0 0 0 0 Try.underlying24
set_option maxRecDepth 20000 in
set_option maxHeartbeats 1600000 in
theorem cloneS_any {w : World} {a : Addr} {n cap : Nat} {S : Nat → Se} (h : RdA w (some a) 5 n cap (seF S)) (hn : n ≤ 16) :
    Calls Try.prog 34 #[.slice (some a) n cap] w fun e w' => ∃ g c, e = .returned (.slice (some ⟨g, 0, none⟩) n c) ∧ w.heap.size ≤ g ∧ Own w' w.heap.size 32 5 (.slice (some ⟨g, 0, none⟩) n c) n (seF S) ∧ Below w.heap.size w w' := by
  have hc : ∀ j, j < n * 5 → w.cell? (a.add j) = some (seF S j) := fun j hj => by
    obtain ⟨b, o, e, hc⟩ := h.at_ (by omega)
    cases e
    rw [Addr.add_lit]
    exact hc j hj
  obtain ⟨i0, hi, hz0, hz1, hz2⟩ := info_parts infoSe
  have HC := hidd hc
  have hq := eqNil_S a n cap
  clear h hc
  go_enter Try.func34, Try.ntmps34
  go_wp2_with (at_builtin; refine wpList_append_own _ rfl _ _ 24 rfl w.heap.size 32 i0 _ 5 56 Try.underlying24 hi hz0 hz1 hz2 rfl (by decide) _ _ _ rfl (World.ownsRow_made w #[] 0 (Nat.le_refl _) (Nat.zero_le _) rfl) a n cap ((List.range (n * 5)).map (seF S)) rfl ?qc1 ?qc2 ?qc3 ?qc4 ?qc5 ?qc6 ?_)
  case qc1 => simp
  case qc2 =>
    intro j u hj
    have hjn : j < n * 5 := by
      have := (List.getElem?_eq_some_iff.1 hj).1
      simp at this
      omega
    refine Lib.cell?_alloc_some _ ?_
    rw [HC.out j hjn]
    simpa [hjn] using hj
  case qc3 => intro u hu; obtain ⟨x, _, rfl⟩ := List.mem_map.1 hu; exact seF_one _ _
  case qc4 => unfold maxLen; omega
  case qc5 => omega
  case qc6 => simp
  intro v' w1 hown hgrow hnil
  have HO : Hid (Own w1 w.heap.size 32 5 v' n (seF S)) := by show w1.ownsRow _ _ _ _ _ _; simpa using hown
  have HF : Hid (Below w.heap.size w w1) := ((Below.refl _ w).alloc (Nat.le_refl _) _).grown hgrow (by simp) (by intro k hk; simp [Value.ownBlock] at hk; omega)
  obtain ⟨u, c, rfl, _⟩ := HO.out.rd
  obtain ⟨g, hg1⟩ : ∃ g, u = some ⟨g, 0, none⟩ := by
    rcases HO.out.2 with ⟨e, _⟩ | ⟨g, _, _, e, hb, _⟩
    · exact absurd e hnil
    · cases e; exact ⟨g, rfl⟩
  subst hg1
  clear hown hgrow hnil
  go_wp2
  go_ret
  exact ⟨g, c, rfl, (HO.out.lt g rfl).1, HO.out, HF.out⟩
set_option maxRecDepth 20000 in
set_option maxHeartbeats 1600000 in
theorem cloneS_nil (w : World) :
    Calls Try.prog 34 #[.slice none 0 0] w fun e w' => e = .returned (.slice none 0 0) ∧ w' = w := by
  have hq := eqNil_S0
  go_enter Try.func34, Try.ntmps34
  go_wp2
  go_ret
  try exact ⟨rfl, rfl⟩
def Gr (W z : World) : Prop := ∃ q os, z = grow (W.drewN q) os
theorem Gr.alloc {W z : World} (h : Gr W z) (o : Obj) : Gr W (z.alloc o) := by
  obtain ⟨q, os, rfl⟩ := h
  exact ⟨q, os ++ #[o], by rw [alloc_eq_grow, grow_grow]⟩
theorem Gr.refl (W : World) : Gr W W := ⟨0, #[], by rw [grow_empty]; rfl⟩
theorem cmpI_any (x y : Int) (w : World) : Calls Try.prog 37 #[.int .i64 x, .int .i64 y] w fun e w' => e = .returned (.int .i64 (Lib.compareInt x y)) ∧ w' = w := AnyG.cmp_Compare_int Ytdceahebkohbjab.cmpI x y w
def cfS (x y : Se) : Int := Lib.compareInt x.id y.id
set_option maxRecDepth 20000 in
set_option maxHeartbeats 1600000 in
theorem cmpcl_any (x y : Se) (W : World) : Calls Try.prog 36 #[.agg (enS x).toArray, .agg (enS y).toArray] W fun e w' => e = .returned (.int .i64 (cfS x y)) ∧ Gr W w' := by
  have HI := hidd (fun W' => cmpI_any x.id y.id W')
  unfold cfS enS
  obtain ⟨a0, a1, a2, a3, a4, a5, a6, a7⟩ := x
  obtain ⟨b0, b1, b2, b3, b4, b5, b6, b7⟩ := y
  simp only at *
  generalize Lib.compareInt a0 b0 = r at *
  go_enter Try.func36, Try.ntmps36
  go_wp2_with (go_at_call 37; with_reducible refine (HI.out _).mono ?_; rintro e w1 ⟨rfl, h1⟩; rw [h1]; clear h1)
  go_ret
  exact ⟨rfl, ((Gr.refl W).alloc _).alloc _⟩
theorem cmpLays [Inhabited Se] (blk off size : Nat) (w : World) : CmpLays Try.prog 36 #[] enS 5 cfS blk off size w := fun _ _ _ _ x y => cmpcl_any x y _
theorem ltS (x y : Se) : ltOf cfS x y = decide (x.id < y.id) := by
  unfold ltOf cfS Lib.compareInt
  by_cases h : x.id < y.id
  · simp [h]
  · by_cases k : y.id < x.id
    · simp [h, k]
    · simp [h, k]
theorem swoS : SWO (ltOf cfS) where
  irrefl := fun x => by rw [ltS]; simp
  trans := fun x y z h1 h2 => by rw [ltS] at *; simp at *; omega
  ntrans := fun x y z h1 h2 => by rw [ltS] at *; simp at *; omega
theorem below_sort {α : Type} [Inhabited α] {enc : α → List Value} {k : Nat} {B : Nat} {w W : World} (h : Below B w W) {blk off m : Nat} {d : Array α} {os : Array Obj} (hb : B ≤ blk) (hB : B ≤ W.heap.size) : Below B w (sortWorldK enc k W blk off m d os) := by
  refine ⟨h.os, h.tape, h.output, Nat.le_trans h.size ?_, fun k hk => ?_⟩
  · unfold sortWorldK
    rw [Go.Sort.size_grow, size_putRowK]
    exact Nat.le_add_right _ _
  · rw [← h.block k hk]
    unfold sortWorldK
    rw [Go.Sort.heap_grow_old _ _ (by rw [size_putRowK]; show k < W.heap.size; omega)]
    unfold putRowK putRow mapBlock
    show (W.heap.modify blk _)[k]? = _
    rw [Array.getElem?_modify]
    rw [if_neg (by omega)]
theorem enS_get (s : Se) (k : Nat) (hk : k < 5) : (enS s)[k]! = seC s k := by
  unfold enS seC
  match k, hk with
  | 0, _ => rfl
  | 1, _ => rfl
  | 2, _ => rfl
  | 3, _ => rfl
  | 4, _ => rfl
/-- the seats in the order of their Ids -/
structure Ord (n : Nat) (S L : Nat → Se) : Prop where
  perm : ((List.range n).map L).Perm ((List.range n).map S)
  up : ∀ i j, i < j → j < n → (L i).id ≤ (L j).id
theorem sortS_any {w0 w : World} {base g n c : Nat} {S : Nat → Se} (ho : Own w base 32 5 (.slice (some ⟨g, 0, none⟩) n c) n (seF S)) (hn : n ≤ 16) (hb : Below base w0 w) (hs : base ≤ w.heap.size) :
    Calls Try.prog 35 #[.slice (some ⟨g, 0, none⟩) n c, .func (.func 36) #[] #[]] w fun e w' => e = .returned (.tuple #[]) ∧ ∃ L, RdA w' (some ⟨g, 0, none⟩) 5 n c (seF L) ∧ Ord n S L ∧ Below base w0 w' := by
  letI : Inhabited Se := ⟨seZ⟩
  have hle := (own_rda ho).le
  have htop := (own_rda ho).top
  have hcell := (own_rda ho).at_
  rcases ho.2 with ⟨h0, _⟩ | ⟨g', cap', cur, hv, hbase, hbk, h1, h2, h3, h4⟩
  · cases h0
  cases hv
  have hl := (Array.getElem?_eq_some_iff.1 hbk).1
  have eg : ∀ args w, (callFunc 36 args).run Try.prog w = .ok (.enter 36 args) w := enters_of Try.func36 (by kernel_rfl) rfl
  obtain ⟨d, hd⟩ : ∃ d : Array Se, d = ((List.range n).map S).toArray := ⟨_, rfl⟩
  have hsz : d.size = n := by rw [hd]; simp
  have hget : ∀ i, i < n → d[i]! = S i := fun i hi => by rw [hd]; simp [hi]
  have hH : HoldsK enS 5 w g 0 d := by
    intro t ht
    have ht : t < n * 5 := by simpa [hsz] using ht
    obtain ⟨b, o, e, hc⟩ := hcell (by omega)
    cases e
    refine ⟨?_, ?_⟩
    · rw [hc t ht, get_flatK _ _ _ _ (by rw [hsz]; exact ht), hget _ (by omega), enS_get _ _ (by omega)]
      rfl
    · unfold World.frozen?
      simp only
      rw [hbk]
      simp
  have hcon := AnyQ.slices_SortFunc Ytdceahebkohbjab.sortC 5 Try.isAgg32 Try.sizeOf32 enS (fun _ => rfl) (fun x v hv => by simp [enS] at hv; rcases hv with rfl | rfl | rfl | rfl | rfl <;> rfl) cfS swoS 36 #[] g 0 c d w eg (cmpLays _ _ _ _) hH hl (by omega)
  rw [hsz] at hcon
  refine Calls.mono hcon ?_
  rintro e w' ⟨rfl, d', m, os, hp, hso, rfl⟩
  have hsz' : d'.size = n := by rw [hp.1, hsz]
  have hH' := holdsK_sortWorldK enS 5 w g 0 m d d' os hl hH hp.1
  refine ⟨rfl, fun i => d'[i]!, ⟨hle, htop, fun _ => ⟨g, 0, rfl, fun j hj => ?_⟩⟩, ⟨?_, ?_⟩, below_sort hb hbase hs⟩
  · have := (HoldsK.cell hH' (i := j / 5) (c := j % 5) (by omega) (by omega)).1
    rw [show 0 + j / 5 * 5 + j % 5 = 0 + j by omega] at this
    rw [this, enS_get _ _ (by omega)]
    rfl
  · have e1 : (List.range n).map (fun i => d'[i]!) = (d'.extract 0 n).toList := by
      apply List.ext_getElem
      · simp [hsz']
      · intro i q1 q2
        have hi : i < n := by simpa using q1
        simp [getElem!_pos d' i (by omega)]
    have e2 : (List.range n).map S = (d.extract 0 n).toList := by
      apply List.ext_getElem
      · simp [hsz]
      · intro i q1 q2
        have hi : i < n := by simpa using q1
        have := hget i hi
        rw [getElem!_pos d i (by omega)] at this
        simp [this]
    rw [e1, e2]
    exact hp.2.2
  · intro i j hij hj
    have := hso i j (Nat.zero_le _) hij hj
    rw [ltS] at this
    simpa using this
theorem Ord.of_mem {n : Nat} {S L : Nat → Se} (h : Ord n S L) {j : Nat} (hj : j < n) : ∃ i, i < n ∧ L j = S i := by
  have : L j ∈ (List.range n).map S := h.perm.mem_iff.1 (List.mem_map.2 ⟨j, List.mem_range.2 hj, rfl⟩)
  obtain ⟨i, hi, e⟩ := List.mem_map.1 this
  exact ⟨i, List.mem_range.1 hi, e.symm⟩
theorem Ord.to_mem {n : Nat} {S L : Nat → Se} (h : Ord n S L) {j : Nat} (hj : j < n) : ∃ i, i < n ∧ S j = L i := by
  have : S j ∈ (List.range n).map L := h.perm.mem_iff.2 (List.mem_map.2 ⟨j, List.mem_range.2 hj, rfl⟩)
  obtain ⟨i, hi, e⟩ := List.mem_map.1 this
  exact ⟨i, List.mem_range.1 hi, e.symm⟩
def OfP (w : World) (n : Nat) (S : Nat → Se) (e : Ending) (w' : World) : Prop := ∃ u c L, e = .returned (.slice u n c) ∧ SeA w' u n c L ∧ Ord n S L ∧ Below w.heap.size w w' ∧ ∀ g o, u = some ⟨g, o, none⟩ → w.heap.size ≤ g
set_option maxRecDepth 20000 in
set_option maxHeartbeats 1600000 in
theorem oldFirst_any {w : World} {ao : Option Addr} {n cap : Nat} {S : Nat → Se} (h : SeA w ao n cap S) (hn : n ≤ 16) (h0 : ao = none → cap = 0) :
    Calls Try.prog 25 #[.slice ao n cap] w (OfP w n S) := by
  cases ao with
  | none =>
    obtain rfl : cap = 0 := h0 rfl
    obtain rfl : n = 0 := by have := h.rd.le; omega
    have HCL := hidd (cloneS_nil w)
    have HSO : Hid (Calls Try.prog 35 #[.slice none 0 0, .func (.func 36) #[] #[]] w fun e w' => e = .returned (.tuple #[]) ∧ w' = w) := AnyF.slices_SortFunc_none Ytdceahebkohbjab.sortC none 0 _ w
    go_enter Try.func25, Try.ntmps25
    go_wp2_with (first
      | (go_at_call 34; with_reducible refine HCL.out.mono ?_; rintro e w1 ⟨rfl, hw⟩; rw [hw]; clear hw)
      | (go_at_call 35; with_reducible refine HSO.out.mono ?_; rintro e w1 ⟨rfl, hw⟩; rw [hw]; clear hw))
    go_ret
    exact ⟨none, 0, S, rfl, h, ⟨List.Perm.refl _, fun i j _ hj => absurd hj (by omega)⟩, Below.refl _ _, fun g o e => by cases e⟩
  | some a =>
    have HCL := hidd (cloneS_any h.rd hn)
    have HH := hidd h
    clear h h0
    go_enter Try.func25, Try.ntmps25
    go_wp2_with (first
      | (go_at_call 34; with_reducible refine HCL.out.mono ?_; rintro e w1 ⟨g, c, rfl, hg, ho, hb⟩; have HG := hidd hg; have HSO := hidd (sortS_any (w0 := w) ho hn hb hb.size); clear HCL ho hb hg)
      | (go_at_call 35; with_reducible refine HSO.out.mono ?_; rintro e w2 ⟨rfl, L, hr, ho, hb2⟩; have HR := hidd hr; have HO := hidd ho; have HB := hidd hb2; clear HSO hr ho hb2))
    go_ret
    refine ⟨_, _, L, rfl, ⟨HR.out, fun i hi => ?_⟩, HO.out, HB.out, fun g' o' e => by cases e; exact HG.out⟩
    obtain ⟨j, hj, e⟩ := HO.out.of_mem hi
    rw [e]
    exact (HH.out.hd j hj).fresh HB.out
end Go.Proofs.Ytdceahebkohbjab
