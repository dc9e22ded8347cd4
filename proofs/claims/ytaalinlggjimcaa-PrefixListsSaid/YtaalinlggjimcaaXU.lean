import Derived.Test.YtaalinlggjimcaaXT
import Derived.Test.YtaalinlggjimcaaXM
namespace Go.Proofs.Ytaalinlggjimcaa
open Go.RowKit
/-! Keep, where it goes well. -/
def addC (cnt : Nat → Nat) (g : Nat → Nat) (k : Nat) : Nat → Nat → Nat
  | 0 => cnt
  | j + 1 => updN (addC cnt g k j) (g (k + j)) (addC cnt g k j (g (k + j)) + 1)
theorem addC_ge (cnt : Nat → Nat) (g : Nat → Nat) (k : Nat) : ∀ j b, cnt b ≤ addC cnt g k j b
  | 0, b => Nat.le_refl _
  | j + 1, b => by
    have := addC_ge cnt g k j b
    unfold addC updN
    split
    · rename_i e; subst e; omega
    · exact this
theorem addC_le (cnt : Nat → Nat) (g : Nat → Nat) (k : Nat) : ∀ j b, addC cnt g k j b ≤ cnt b + j
  | 0, b => Nat.le_refl _
  | j + 1, b => by
    have := addC_le cnt g k j b
    unfold addC updN
    split
    · rename_i e; subst e; omega
    · omega
/-- the known ones with j new ones behind them -/
structure Ext (L : List Nd) (P : List (List Int)) (g : Nat → Nat) (k j : Nat) (L' : List Nd) (news : List Nd) : Prop where
  eq : L' = L ++ news
  len : news.length = j
  at_ : ∀ i, i < j → ∃ y, news[i]? = some y ∧ y.path = P.take (k + i + 1) ∧ y.blk = g (k + i) ∧ y.used = 0
theorem Ext.mem {L : List Nd} {P : List (List Int)} {g : Nat → Nat} {k j : Nat} {L' news : List Nd} (h : Ext L P g k j L' news) {y : Nd} (hy : y ∈ L') : y ∈ L ∨ ∃ i, i < j ∧ y.path = P.take (k + i + 1) ∧ y.blk = g (k + i) := by
  rw [h.eq] at hy
  rcases List.mem_append.1 hy with hy | hy
  · exact .inl hy
  · obtain ⟨i, hi⟩ := List.mem_iff_getElem?.1 hy
    have hil : i < j := by rw [← h.len]; exact (List.getElem?_eq_some_iff.1 hi).1
    obtain ⟨z, hz, h1, h2, _⟩ := h.at_ i hil
    rw [hi] at hz
    cases hz
    exact .inr ⟨i, hil, h1, h2⟩
theorem Ext.add {L : List Nd} {P : List (List Int)} {g : Nat → Nat} {k j : Nat} {L' news : List Nd} (h : Ext L P g k j L' news) {y : Nd} (h1 : y.path = P.take (k + j + 1)) (h2 : y.blk = g (k + j)) (h3 : y.used = 0) : Ext L P g k (j + 1) (L' ++ [y]) (news ++ [y]) := by
  refine ⟨by rw [h.eq, List.append_assoc], by simp [h.len], fun i hi => ?_⟩
  by_cases e : i < j
  · obtain ⟨z, hz, r⟩ := h.at_ i e
    exact ⟨z, by rw [List.getElem?_append_left (by rw [h.len]; exact e)]; exact hz, r⟩
  · obtain rfl : i = j := by omega
    refine ⟨y, ?_, h1, h2, h3⟩
    rw [List.getElem?_append_right (by rw [h.len]; exact Nat.le_refl _), h.len]
    simp
/-- what Keep leaves -/
structure Kept (w w' : World) (c : Ca) (A : Nat → Prop) (L : List Nd) (N cb nb Y W S : Nat) (cnt : Nat → Nat) (num : Nat → Int) (P : List (List Int)) (g : Nat → Nat) (k : Nat) (A' : Nat → Prop) (L' news : List Nd) : Prop where
  ext : Ext L P g k (P.length - k) L' news
  cache : CacheAt w' c A' (useL L' P (N + 1)) (N + 1)
  pool : PoolAt w' c.pg cb nb Y W c.B S (addC cnt g k (P.length - k)) num
  chg : Chg w w' (fun z => A z ∨ z = cb)
  up : ∀ z, A z → A' z
  dn : ∀ z, A' z → A z ∨ w.heap.size ≤ z
theorem keep_prep {w w6 : World} {c : Ca} {A : Nat → Prop} {L : List Nd} {N : Nat} (h : CacheAt w c A L N) {t : Nat → Int} {bb boff m bcap n k b o : Nat} {gn : Nat → Nat} (hB : ∀ j, j < m → w.cell? ⟨bb, boff + j, none⟩ = some (.int .i64 (gn j : Int))) (hk : ∀ k b o, Long c.C L (pcL t c.S n) k b o → k < bcap ∧ Nobodys L (fun i => gn (k + i)) (n - k)) (hblk : ∀ i, i < n → gn i < c.B) (hnm : n ≤ m) (hbc : m ≤ bcap) (hbt : bcap ≤ 9223372036854775807)
    (f : Below w.heap.size w w6) (hkn : k ≤ n) (hadr : AdrOf c.C L ((pcL t c.S n).take k) b o) (hno : ∀ j, k < j → j ≤ n → ∀ x ∈ L, x.path ≠ (pcL t c.S n).take j) :
    w6.cell? ⟨b, o, none⟩ = some (.int .i64 k) ∧ k < bcap ∧ Long c.C L (pcL t c.S n) k b o ∧ Calls Try.prog 40 #[.pointer (some ⟨c.C, 0, none⟩), .slice (some ⟨bb, boff + k, none⟩) (n - k) (bcap - k)] w6 fun e w' => e = .returned (.bool true) ∧ Below w6.heap.size w6 w' := by
  have LG : Long c.C L (pcL t c.S n) k b o := ⟨by rw [pcL_len]; exact hkn, hadr, fun j h1 h2 => hno j h1 (by rw [pcL_len] at h2; exact h2)⟩
  obtain ⟨a0, _, _⟩ := (h.fresh f).adr hadr
  rw [List.length_take, pcL_len, Nat.min_eq_left hkn] at a0
  obtain ⟨h1, h2⟩ := hk k b o LG
  refine ⟨a0, h1, LG, ?_⟩
  refine (areNobodys_any (h.fresh f) (bo := some ⟨bb, boff + k, none⟩) (m := n - k) (cap := bcap - k) (g := fun i => gn (k + i)) ⟨by omega, by unfold maxLen; omega, fun _ => ⟨bb, boff + k, rfl, fun j hj => ?_⟩⟩ (fun i hi => hblk _ (by omega))).mono ?_
  · have := fresh_cell f (hB (k + j) (by omega))
    rw [Nat.add_assoc]; exact this
  · rintro e w' ⟨⟨r, rfl, hr⟩, hf⟩
    exact ⟨by rw [hr.2 h2], hf⟩
theorem keep_piece {w7 : World} {c : Ca} {t : Nat → Int} {T n g5 i : Nat} (hF : ∀ i, i < T → fits (t i)) (hnS : n * c.S ≤ T) (hT : TextAt w7 g5 (pcL t c.S n)) (hi : i < n) : Pc ((pcL t c.S n).getD i []) ∧ (pcL t c.S n).take (i + 1) = (pcL t c.S n).take i ++ [(pcL t c.S n).getD i []] ∧ ∀ r v, (ints ((pcL t c.S n).getD i []))[r]? = some v → w7.cell? ⟨g5, i * 16 + r, none⟩ = some v := by
  refine ⟨pcL_pc hF hnS _ (getD_mem (by rw [pcL_len]; exact hi)), ?_, hT.piece (by rw [pcL_len]; exact hi)⟩
  rw [List.take_add_one, List.getD_eq_getElem?_getD, List.getElem?_eq_getElem (by rw [pcL_len]; exact hi)]
  rfl
set_option maxRecDepth 100000 in
set_option maxHeartbeats 8000000 in
theorem keep_ok {w : World} {c : Ca} {A : Nat → Prop} {L : List Nd} {N : Nat} (h : CacheAt w c A L N) (hN : N ≤ 4611686018427387904) {cb nb Y W S : Nat} {cnt : Nat → Nat} {num : Nat → Int} (hp : PoolAt w c.pg cb nb Y W c.B S cnt num) (o1 : ¬ A c.pg) (o2 : ¬ A cb) (o3 : ¬ A nb)
    {to : Option Addr} {T cap : Nat} {t : Nat → Int} (ht : RdA w to 1 T cap (fun i => .int .i64 (t i))) (hfit : ∀ i, i < T → fits (t i)) {bb boff m bcap : Nat} {gn : Nat → Nat} (hb : RdA w (some ⟨bb, boff, none⟩) 1 m bcap (fun i => .int .i64 (gn i : Int))) (ob : ¬ A bb) (obc : bb ≠ cb)
    {n : Nat} (hn : n = T / c.S) (hnm : n ≤ m) (hnB : n ≤ c.B) (hblk : ∀ i, i < n → gn i < c.B) (hc0 : ∀ i, i < n → cnt (gn i) ≠ 0) (hc1 : ∀ i, i < n → cnt (gn i) ≤ 1152921504606846976) (hk : ∀ k b o, Long c.C L (pcL t c.S n) k b o → k < bcap ∧ Nobodys L (fun i => gn (k + i)) (n - k)) :
    Calls Try.prog 12 #[.pointer (some ⟨c.C, 0, none⟩), .slice to T cap, .slice (some ⟨bb, boff, none⟩) m bcap] w fun e w' => ∃ k b o A' L' news, e = .returned (.int .i64 0) ∧ Long c.C L (pcL t c.S n) k b o ∧ Kept w w' c A L N cb nb Y W S cnt num (pcL t c.S n) gn k A' L' news := by
  obtain ⟨_, c1, _, _, _, c24, _⟩ := h.cells
  obtain ⟨hS1, hS2⟩ := h.well.hS
  obtain ⟨hB1, hB2⟩ := h.well.hB
  have hT : T ≤ 9223372036854775807 := by have := ht.le; have := ht.top; unfold maxLen at this; omega
  have hbc := hb.le
  have hbt : bcap ≤ 9223372036854775807 := by have := hb.top; unfold maxLen at this; omega
  have hnS : n * c.S ≤ T := by rw [hn]; exact Nat.div_mul_le_self T c.S
  have hz : ¬ (c.S : Int) = 0 := by omega
  have hq : ((T : Int).tdiv (c.S : Int)) = (n : Int) := by rw [Int.tdiv_eq_ediv_of_nonneg (by omega), hn]; push_cast; rfl
  have hdiv : n ≤ T := by rw [hn]; exact Nat.div_le_self _ _
  have HB : Hid (∀ j, j < m → w.cell? ⟨bb, boff + j, none⟩ = some (.int .i64 (gn j : Int))) := fun j hj => by
    obtain ⟨b, off, e, hcs⟩ := hb.one (by omega)
    cases e
    exact hcs j hj
  have HIN : Hid (Calls Try.prog 39 #[.pointer (some ⟨c.C, 0, none⟩), .slice (some ⟨bb, boff, none⟩) n bcap] w fun e w' => e = .returned (.bool true) ∧ w' = w) := by
    refine (areInUse_any h hp (bo := some ⟨bb, boff, none⟩) (m := n) (cap := bcap) (g := fun i => (gn i : Int)) ⟨by omega, hb.top, fun hn0 => ⟨bb, boff, rfl, fun j hj => HB.out j (by omega)⟩⟩).mono ?_
    rintro e w' ⟨⟨r, rfl, hr⟩, hw⟩
    refine ⟨?_, hw⟩
    rw [hr.2 (fun i hi => by rw [cntI_nat cnt (hblk i hi)]; exact hc0 i hi)]
  have HCUT := hidd (cut_any (most := n) ht h.well.hS (by omega) (show n = min (T / c.S) n by rw [← hn]; omega))
  have HH := hidd h
  have HPL := hidd hp
  have HK := hidd hk
  have HF := hidd hfit
  have hbw : 0 < m → bb < w.heap.size := fun h0 => lt_of_cell (HB.out 0 h0)
  have d1 : ¬ (m : Int) < (n : Int) := by omega
  have d2 : ¬ (c.B : Int) < (n : Int) := by omega
  have e1 : decide ((m : Int) < (n : Int)) = false := by simpa using d1
  have e2 : decide ((c.B : Int) < (n : Int)) = false := by simpa using d2
  clear h hp hb hk hn ht
  go_enter Try.func12, Try.ntmps12
  go_wp2_with (first
    | (go_at_call 39; refine HIN.out.mono ?_; rintro e w9 ⟨rfl, h9⟩; rw [h9]; clear h9)
    | (go_at_call 36; refine HCUT.out.mono ?_; rintro e w5 ⟨g5, rfl, r5, hg5, f5⟩; have LGC := longest_any (HH.out.fresh f5) (pcL_len t c.S n).symm (pcL_text HF.out hnS r5) (by omega) ⟨Nat.le_refl _, by unfold maxLen; omega⟩)
    | (go_at_call 35; refine LGC.mono ?_; rintro e w6 ⟨⟨k, b, o, rfl, hkn, hadr, hno⟩, f6⟩; have KP := keep_prep HH.out HB.out HK.out hblk hnm hbc hbt (fresh_trans f5 f6) hkn hadr hno; obtain ⟨a0, hkb, LG, NBC⟩ := KP; have k0 : (0 : Int) ≤ (k : Int) := Int.natCast_nonneg _; have k1 : (k : Int) ≤ (n : Int) := Int.ofNat_le.2 hkn; have k2 : (n : Int) ≤ (bcap : Int) := Int.ofNat_le.2 (Nat.le_trans hnm hbc); have k3 : ¬ bcap = k := fun e => Nat.lt_irrefl _ (e ▸ hkb))
    | (go_at_call 40; refine NBC.mono ?_; rintro e w7 ⟨rfl, f7⟩; have a07 := fresh_cell f7 a0))
  have f57 := fresh_trans (fresh_trans f5 f6) f7
  have HLG := hidd LG
  have HT7 := hidd ((pcL_text HF.out hnS r5).below (fresh_trans f6 f7) r5.lt)
  have hg5l : g5 < w5.heap.size := r5.lt
  have hs57 := (fresh_trans f6 f7).size
  have hs05 := f5.size
  have F57 := hidd f57
  clear HIN HCUT LGC NBC a0 a07 LG hadr hno r5 c1 c24 d1 d2 e1 e2 k0 k1 k2 k3 hz hq
  go_loopw [9, 10] (fun v vi wr => ∃ (i j b o : Nat) (Aj : Nat → Prop) (Lj news : List Nd), i ≤ n ∧ vi = .int .i64 (i : Int) ∧ Hid (i = k + j) ∧ v = .pointer (some ⟨b, o, none⟩) ∧ Hid (AdrOf c.C Lj ((pcL t c.S n).take i) b o ∧ CacheAt wr c Aj Lj N ∧ PoolAt wr c.pg cb nb Y W c.B S (addC cnt gn k j) num ∧ Ext L (pcL t c.S n) gn k j Lj news ∧ Chg w7 wr (fun z => A z ∨ z = cb ∨ w7.heap.size ≤ z) ∧ (∀ z, A z → Aj z) ∧ (∀ z, Aj z → A z ∨ w7.heap.size ≤ z))) (fun _ vi _ => n - (intOf vi).toNat)
  case atStart => exact ⟨k, 0, b, o, A, L, [], hkn, rfl, rfl, rfl, ⟨HLG.out.adr, HH.out.fresh F57.out, HPL.out.fresh F57.out, ⟨by simp, rfl, fun i hi => absurd hi (by omega)⟩, Chg.refl _ _, fun _ h => h, fun _ h => .inl h⟩⟩
  case round =>
    obtain ⟨i, j, b, o, Aj, Lj, news, hjn, rfl, HI, rfl, HJ⟩ := hrel
    by_cases hlt : i < n
    · clear hjn
      have PP := keep_piece HF.out hnS HT7.out hlt
      obtain ⟨p, hp⟩ : ∃ p, p = (pcL t c.S n).getD i [] := ⟨_, rfl⟩
      rw [← hp] at PP
      obtain ⟨hpc, htk, hcell⟩ := PP
      have hlw : ∀ z, A z → z < w.heap.size := HH.out.low
      have hcbw : cb < w.heap.size := HPL.out.cnts.lt
      have hpgw : c.pg < w.heap.size := HPL.out.row.lt
      have hnbw : nb < w.heap.size := HPL.out.nums.lt
      have hbbw := hbw (by omega)
      have nA : ∀ z, ¬ A z → z < w7.heap.size → ¬ Aj z := fun z h1 h2 h3 => by
        rcases HJ.out.2.2.2.2.2.2 z h3 with h | h
        · exact h1 h
        · omega
      have ng5 : ¬ A g5 := fun e => by have := hlw g5 e; omega
      have f0 : Below wr.heap.size wr wr.drew := (Below.refl _ _).drew
      have NOB := (HK.out k _ _ HLG.out).2
      have hgi : gn i = gn (k + j) := by rw [HI.out]
      have LRN0 : (∀ y ∈ Lj, y.blk ≠ gn i) ∧ (∀ y ∈ Lj, y.path ≠ (pcL t c.S n).take i ++ [p]) := by
        refine ⟨fun y hy e => ?_, fun y hy e => ?_⟩
        · rcases HJ.out.2.2.2.1.mem hy with hy | ⟨i', h1, h2, h3⟩
          · exact NOB.1 j (by have := HI.out; omega) y hy (by show y.blk = gn (k + j); rw [e, hgi])
          · exact NOB.2 i' j h1 (by have := HI.out; omega) (by show gn (k + i') = gn (k + j); rw [← h3, e, hgi])
        · rw [← htk] at e
          rcases HJ.out.2.2.2.1.mem hy with hy | ⟨i', h1, h2, h3⟩
          · exact HLG.out.no (i + 1) (by have := HI.out; omega) (by rw [pcL_len]; omega) y hy e
          · rw [h2] at e
            have := congrArg List.length e
            rw [List.length_take, List.length_take, pcL_len] at this
            have := HI.out
            omega
      have q5 : ∀ r v, (ints p)[r]? = some v → wr.cell? ⟨g5, i * 16 + r, none⟩ = some v := fun r v hr => HJ.out.2.2.2.2.1.cell (hcell r v hr) (fun e => by
        rcases e with e | e | e
        · exact ng5 e
        · omega
        · omega)
      have qb : wr.cell? ⟨bb, boff + i, none⟩ = some (.int .i64 (gn i : Int)) := HJ.out.2.2.2.2.1.cell (fresh_cell F57.out (HB.out i (by omega))) (fun e => by
        rcases e with e | e | e
        · exact ob e
        · exact obc e
        · omega)
      have hlen1 : ((pcL t c.S n).take i).length + 1 ≤ c.B := by rw [List.length_take, pcL_len]; omega
      have hj256 : j ≤ 256 := by have := HI.out; omega
      have hge := addC_ge cnt gn k j (gn i)
      have hle := addC_le cnt gn k j (gn i)
      have hci := hc0 i hlt
      have hci1 := hc1 i hlt
      have HTK := hidd htk
      have HP0 := hidd hp
      clear hp hcell htk
      obtain ⟨a0, a1, a2, a3, a4, a5, a6, a7, a8, a9, a10, a11, a12, a13, a14, a15, rfl⟩ := len16 hpc.1
      have K17 : Hid (∀ Z : World, (∀ r v, (ints [a0, a1, a2, a3, a4, a5, a6, a7, a8, a9, a10, a11, a12, a13, a14, a15])[r]? = some v → Z.cell? ⟨g5, i * 16 + r, none⟩ = some v) → Z.cell? ⟨bb, boff + i, none⟩ = some (.int .i64 (gn i : Int)) → Z.cell? ⟨bb, boff + i, none⟩ = some (.int .i64 (gn i : Int)) ∧ Z.rangeAt g5 (i * 16) (ints [a0, a1, a2, a3, a4, a5, a6, a7, a8, a9, a10, a11, a12, a13, a14, a15])) := fun Z h1 h2 => ⟨h2, h1⟩
      have LRN : Hid (Calls Try.prog 41 #[.pointer (some ⟨c.C, 0, none⟩), .pointer (some ⟨b, o, none⟩), .agg (ints [a0, a1, a2, a3, a4, a5, a6, a7, a8, a9, a10, a11, a12, a13, a14, a15]).toArray, .int .i64 (gn i : Int)] wr.drew fun e w' => ∃ a A', e = .returned (.pointer (some ⟨a, 0, none⟩)) ∧ CacheAt w' c A' (Lj ++ [⟨(pcL t c.S n).take i ++ [[a0, a1, a2, a3, a4, a5, a6, a7, a8, a9, a10, a11, a12, a13, a14, a15]], gn i, 0, a⟩]) N ∧ PoolAt w' c.pg cb nb Y W c.B S (updN (addC cnt gn k j) (gn i) (addC cnt gn k j (gn i) + 1)) num ∧ Chg wr.drew w' (fun b => Aj b ∨ b = cb) ∧ (∀ b, Aj b → A' b) ∧ (∀ b, A' b → Aj b ∨ wr.drew.heap.size ≤ b)) := hidd (learn_any (HJ.out.2.1.fresh f0) (HJ.out.2.2.1.fresh f0) HJ.out.1 hpc hlen1 (hblk i hlt) LRN0.1 LRN0.2 (by omega) (by omega) (nA _ o1 (by omega)) (nA _ o2 (by omega)) (nA _ o3 (by omega)))
      have KV := K17.out wr.drew (fun r v hr => fresh_cell f0 (q5 r v hr)) (fresh_cell f0 qb)
      have K9F : Hid (∀ Z, Chg wr.drew Z (fun b => Aj b ∨ b = cb) → Z.cell? ⟨bb, boff + i, none⟩ = some (.int .i64 (gn i : Int)) ∧ Z.rangeAt g5 (i * 16) (ints [a0, a1, a2, a3, a4, a5, a6, a7, a8, a9, a10, a11, a12, a13, a14, a15])) := fun Z hZ => K17.out Z (fun r v hr => hZ.cell (fresh_cell f0 (q5 r v hr)) (fun e => by
        rcases e with e | e
        · exact nA _ ng5 (by omega) e
        · have e : g5 = cb := e
          omega)) (hZ.cell (fresh_cell f0 qb) (fun e => by
        rcases e with e | e
        · exact nA _ ob (by omega) e
        · exact obc e))
      have huP := Try.underlying73
      have hsP : (Try.prog.info? 73).map (·.size) = some (ints [a0, a1, a2, a3, a4, a5, a6, a7, a8, a9, a10, a11, a12, a13, a14, a15]).length := sizePc
      have i0 : (0 : Int) ≤ (i : Int) := by omega
      have i1 : (i : Int) < (n : Int) := by omega
      have i2 : (i : Int) < (m : Int) := by omega
      clear NOB LRN0 hpc hge hle hci hci1 hgi q5 qb K17 hlen1
      go_wp2
      go_region_held3 (fun w' => w'.cell? ⟨bb, boff + i, none⟩ = some (.int .i64 (gn i : Int)) ∧ w'.rangeAt g5 (i * 16) (ints [a0, a1, a2, a3, a4, a5, a6, a7, a8, a9, a10, a11, a12, a13, a14, a15]))
        (first | (with_reducible exact KV) | (with_reducible exact K9) | go_keep)
        (first
          | (go_at_call 41; with_reducible refine LRN.out.mono ?_; rintro e w9 ⟨ax, A9, rfl, C9, P9, G9, up9, dn9⟩; have K9 := K9F.out w9 G9))
      all_goals
        clear KV K9 K9F LRN
        go_wp2
        go_roundw
        case rel =>
          have hsr := HJ.out.2.2.2.2.1.size
          refine ⟨i + 1, j + 1, ax, 0, A9, Lj ++ [⟨(pcL t c.S n).take i ++ [[a0, a1, a2, a3, a4, a5, a6, a7, a8, a9, a10, a11, a12, a13, a14, a15]], gn i, 0, ax⟩], news ++ [⟨(pcL t c.S n).take i ++ [[a0, a1, a2, a3, a4, a5, a6, a7, a8, a9, a10, a11, a12, a13, a14, a15]], gn i, 0, ax⟩], by omega, by go_num, by have := HI.out; show _ = _; omega, rfl, ⟨.inr ⟨⟨(pcL t c.S n).take i ++ [[a0, a1, a2, a3, a4, a5, a6, a7, a8, a9, a10, a11, a12, a13, a14, a15]], gn i, 0, ax⟩, List.mem_append.2 (.inr List.mem_cons_self), ?_, rfl, rfl⟩, C9, ?_, HJ.out.2.2.2.1.add ?_ ?_ rfl, ?_, fun z hz => up9 z (HJ.out.2.2.2.2.2.1 z hz), fun z hz => ?_⟩⟩
          · exact HTK.out.symm
          · unfold addC
            rw [← HI.out]
            exact P9
          · show (pcL t c.S n).take i ++ [_] = _
            rw [← HTK.out, HI.out]
          · show gn i = _
            rw [HI.out]
          · refine (HJ.out.2.2.2.2.1.post f0).trans G9 (fun z hz e => ?_)
            rcases e with e | e
            · rcases HJ.out.2.2.2.2.2.2 z e with h | h
              · exact .inl h
              · exact .inr (.inr h)
            · exact .inr (.inl e)
          · rcases dn9 z hz with h | h
            · exact HJ.out.2.2.2.2.2.2 z h
            · exact .inr (Nat.le_trans hsr h)
        case measure => simp [intOf]; omega
    · obtain rfl : n = i := by omega
      clear hjn
      have HUSE := hidd (use_any HJ.out.2.1 hN HJ.out.1)
      go_wp2_with (go_at_call 37; refine HUSE.out.mono ?_; rintro e w8 ⟨rfl, C8, G8⟩)
      go_ret
      have hcbw : cb < w.heap.size := HPL.out.cnts.lt
      have hpgw : c.pg < w.heap.size := HPL.out.row.lt
      have hnbw : nb < w.heap.size := HPL.out.nums.lt
      have nA : ∀ z, ¬ A z → z < w7.heap.size → ¬ Aj z := fun z h1 h2 h3 => by
        rcases HJ.out.2.2.2.2.2.2 z h3 with h | h
        · exact h1 h
        · omega
      have ej : (pcL t c.S n).length - k = j := by rw [pcL_len]; have := HI.out; omega
      refine ⟨k, _, _, Aj, Lj, news, rfl, HLG.out, ⟨by rw [ej]; exact HJ.out.2.2.2.1, ?_, by rw [ej]; exact HJ.out.2.2.1.chg G8 (nA _ o1 (by omega)) (nA _ o2 (by omega)) (nA _ o3 (by omega)), ?_, HJ.out.2.2.2.2.2.1, fun z hz => ?_⟩⟩
      · have : (pcL t c.S n).take n = pcL t c.S n := by rw [pcL_take _ _ (Nat.le_refl _)]
        rw [this] at C8
        exact C8
      · refine (Chg.pre F57.out (HJ.out.2.2.2.2.1.trans G8 (fun z hz e => ?_))).imp (fun z hz e => ?_)
        · rcases HJ.out.2.2.2.2.2.2 z e with h | h
          · exact .inl h
          · exact .inr (.inr h)
        · rcases e with e | e | e
          · exact .inl e
          · exact .inr e
          · omega
      · rcases HJ.out.2.2.2.2.2.2 z hz with h | h
        · exact .inl h
        · exact .inr (by omega)
end Go.Proofs.Ytaalinlggjimcaa
