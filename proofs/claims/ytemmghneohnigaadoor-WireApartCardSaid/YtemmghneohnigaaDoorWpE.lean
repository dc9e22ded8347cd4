import Derived.Test.YtemmghneohnigaaDoorPA
import Derived.Deep.MidRow
import Derived.Laws.Tables
import Derived.Laws.Rows
import Derived.Laws.ResultCell
namespace Go.Proofs.YtemmghneohnigaaDoor
open Go.RowKit
/-! The table of words. -/
def fnV (n : Nat) : Value := .func (.func n) #[] #[]
def wTab : Array Value := #[.string ⟨#[97, 115, 107]⟩, .int .i64 6, .func (.func 59) #[] #[], .func (.func 60) #[] #[], .func (.func 61) #[] #[], .string ⟨#[99, 97, 110, 99, 101, 108]⟩, .int .i64 0, .func (.func 62) #[] #[], .func (.func 63) #[] #[], .func (.func 64) #[] #[], .string ⟨#[111, 107]⟩, .int .i64 0, .func (.func 62) #[] #[], .func (.func 63) #[] #[], .func (.func 64) #[] #[], .string ⟨#[101, 114, 114, 111, 114]⟩, .int .i64 1, .func (.func 62) #[] #[], .func (.func 63) #[] #[], .func (.func 64) #[] #[], .string ⟨#[116, 101, 120, 116]⟩, .int .i64 0, .func (.func 65) #[] #[], .func (.func 66) #[] #[], .func (.func 67) #[] #[], .string ⟨#[101, 110, 100]⟩, .int .i64 1, .func (.func 62) #[] #[], .func (.func 63) #[] #[], .func (.func 64) #[] #[]]
/-- a block, whole -/
def Blk (w : World) (b : Nat) (t : TypeId) (cs : Array Value) : Prop := w.heap[b]? = some (.cells cs t (0, 0))
theorem Blk.fresh {w w' : World} {b : Nat} {t : TypeId} {cs : Array Value} (h : Blk w b t cs) (f : Below w.heap.size w w') : Blk w' b t cs := (f.block b (Array.getElem?_eq_some_iff.1 h).1).trans h
theorem Blk.new (w : World) (t : TypeId) (cs : Array Value) : Blk (w.alloc (.cells cs t)) w.heap.size t cs := by
  unfold Blk
  show (w.heap.push _)[w.heap.size]? = _
  simp
theorem Blk.lt {w : World} {b : Nat} {t : TypeId} {cs : Array Value} (h : Blk w b t cs) : b < w.heap.size := (Array.getElem?_eq_some_iff.1 h).1
theorem Blk.cell {w : World} {b : Nat} {t : TypeId} {cs : Array Value} (h : Blk w b t cs) (i : Nat) : w.cell? ⟨b, i, none⟩ = cs[i]? := by
  unfold Blk at h
  simp [World.cell?, h]
theorem Blk.frozen {w : World} {b : Nat} {t : TypeId} {cs : Array Value} (h : Blk w b t cs) (i : Nat) : w.frozen? ⟨b, i, none⟩ = false := by
  unfold Blk at h
  simp [World.frozen?, h]
set_option maxRecDepth 20000 in
theorem words_any (w : World) : Calls Tryd.prog 47 #[] w fun e w' => e = .returned (.slice (some ⟨w.heap.size, 0, none⟩) 6 6) ∧ Blk w' w.heap.size 63 wTab ∧ Below w.heap.size w w' := by
  have HB := hidd (Blk.new w 63 wTab)
  have HF := hidd (fresh_alloc w (.cells wTab 63))
  unfold wTab at HB HF
  go_enter Tryd.func47, Tryd.ntmps47
  go_wp2
  go_ret
  exact ⟨rfl, HB.out, HF.out⟩
/-- the names -/
def wNm (k : Nat) : List Int := match k with
  | 0 => [97, 115, 107]
  | 1 => [99, 97, 110, 99, 101, 108]
  | 2 => [111, 107]
  | 3 => [101, 114, 114, 111, 114]
  | 4 => [116, 101, 120, 116]
  | _ => [101, 110, 100]
/-- a word as it stands in the table -/
def wWd (k : Nat) : Array Value := wTab.extract (5 * k) (5 * k + 5)
def wz : Array Value := #[.string ⟨#[]⟩, .int .i64 0, .nilFunc, .nilFunc, .nilFunc]
theorem ret_cell_tmp {P : Program} {fn : Func} {p u : Tmp} {ty : TypeId} (h : fn.results = #[.cell p ty, .tmp u]) (tmps : Array Value) (w : World) (g : Nat) (t : TypeId) (cs : Array Value) (fr : Nat × Nat) (d : TypeDesc) (v : Value)
    (hp : tmps.getD p undef = .pointer (some ⟨g, 0, none⟩)) (hg : w.heap[g]? = some (.cells cs t fr))
    (hu : P.underlying ty = some d) (hd : (match d with | .struct _ | .array _ _ => true | _ => false) = true) (hi : (P.info? ty).map (·.size) = some cs.size) (hv : tmps.getD u undef = v) :
    (results fn tmps).run P w = .ok (.tuple #[.agg cs, v]) w := by
  rw [results_cell_tmp h, hp, hv]
  simp [asAddr, run_loadVar_row w g t ty cs fr d hg hu hd hi]
theorem sizeWd : (Tryd.prog.info? 63).map (·.size) = some 5 := by kernel_rfl
theorem wWd_facts {k : Nat} (hk : k < 6) : (wWd k).size = 5 ∧ (wWd k).all (·.oneCell') = true ∧ (wWd k)[0]? = some (.string (strOfNums (wNm k))) ∧ ∀ j v, (wWd k).toList[j]? = some v → wTab[k * 5 + j]? = some v := by
  have h : ∀ k, k < 6 → (wWd k).size = 5 ∧ (wWd k).all (·.oneCell') = true ∧ (wWd k)[0]? = some (.string (strOfNums (wNm k))) := fun k hk => by
    match k, hk with
    | 0, _ => exact ⟨rfl, by decide +kernel, rfl⟩
    | 1, _ => exact ⟨rfl, by decide +kernel, rfl⟩
    | 2, _ => exact ⟨rfl, by decide +kernel, rfl⟩
    | 3, _ => exact ⟨rfl, by decide +kernel, rfl⟩
    | 4, _ => exact ⟨rfl, by decide +kernel, rfl⟩
    | 5, _ => exact ⟨rfl, by decide +kernel, rfl⟩
  refine ⟨(h k hk).1, (h k hk).2.1, (h k hk).2.2, fun j v hj => ?_⟩
  have hz := (h k hk).1
  have hjl : j < 5 := by
    have := (List.getElem?_eq_some_iff.1 hj).1
    rw [Array.length_toList, hz] at this
    exact this
  unfold wWd at hj
  rw [Array.toList_extract] at hj
  simp only [List.extract_eq_take_drop] at hj
  rw [List.getElem?_take_of_lt (by omega), List.getElem?_drop] at hj
  rw [← Array.getElem?_toList]
  rw [show k * 5 + j = 5 * k + j by omega]
  exact hj
theorem Blk.set {w : World} {b : Nat} {t : TypeId} {old : Array Value} (h : Blk w b t old) (cs : Array Value) : Blk (w.setRow b cs) b t cs := setRow_heap w b old cs t (0, 0) h
theorem below_setRow {B : Nat} {a w : World} (h : Below B a w) {b : Nat} (hb : B ≤ b) (cs : Array Value) : Below B a (w.setRow b cs) :=
  ⟨h.os, h.tape, h.output, Nat.le_trans h.size (by simp), fun k hk => by rw [setRow_other w b k cs (by omega)]; exact h.block k hk⟩
set_option maxRecDepth 20000 in
set_option maxHeartbeats 2000000 in
theorem wordOf_any {l : List Int} (hB : Byt l) (w : World) : Calls Tryd.prog 29 #[.string (strOfNums l)] w fun e w' => Below w.heap.size w w' ∧ ((∃ k, k < 6 ∧ l = wNm k ∧ e = .returned (.tuple #[.agg (wWd k), .bool true])) ∨ ((∀ k, k < 6 → l ≠ wNm k) ∧ e = .returned (.tuple #[.agg wz, .bool false]))) := by
  have HB := hidd hB
  have HW := hidd (fun w => words_any w)
  have HQ : Hid (∀ k, k < 6 → ((strOfNums (wNm k)).toList == (strOfNums l).toList) = decide (wNm k = l)) := fun k hk => str_eq (by
    match k, hk with
    | 0, _ => exact (by decide : ∀ x ∈ wNm 0, 0 ≤ x ∧ x ≤ 255)
    | 1, _ => exact (by decide : ∀ x ∈ wNm 1, 0 ≤ x ∧ x ≤ 255)
    | 2, _ => exact (by decide : ∀ x ∈ wNm 2, 0 ≤ x ∧ x ≤ 255)
    | 3, _ => exact (by decide : ∀ x ∈ wNm 3, 0 ≤ x ∧ x ≤ 255)
    | 4, _ => exact (by decide : ∀ x ∈ wNm 4, 0 ≤ x ∧ x ≤ 255)
    | 5, _ => exact (by decide : ∀ x ∈ wNm 5, 0 ≤ x ∧ x ≤ 255)) hB
  clear hB
  generalize hs : strOfNums l = s at *
  clear hs
  go_enter Tryd.func29, Tryd.ntmps29
  go_upto_region 1 with fail
  have HZ := hidd (Blk.new w 63 wz)
  have HF := hidd (fresh_alloc w (.cells wz 63))
  have HSZ : Hid ((w.alloc (.cells wz 63)).heap.size = w.heap.size + 1) := by show _ = _; simp
  unfold wz at HZ HF HSZ
  generalize w.alloc (.cells #[.string ⟨#[]⟩, .int .i64 0, .nilFunc, .nilFunc, .nilFunc] 63) = w0 at *
  go_upto_region 2 with (go_at_call 47; with_reducible refine (HW.out _).mono ?_; rintro e w1 ⟨rfl, hb1, hf1⟩)
  rw [HSZ.out] at hb1 ⊢
  have HT := hidd hb1
  have HZ1 := hidd (HZ.out.fresh hf1)
  have HF1 := hidd (fresh_trans HF.out hf1)
  clear hb1 hf1 HZ HF HSZ HW
  go_wp2
  go_loopw [8] (fun i wr => ∃ k : Nat, k ≤ 6 ∧ i = .int .i64 (k : Int) ∧ Hid (∀ j, j < k → l ≠ wNm j) ∧ Hid (Blk wr w.heap.size 63 #[.string ⟨#[]⟩, .int .i64 0, .nilFunc, .nilFunc, .nilFunc]) ∧ Hid (Blk wr (w.heap.size + 1) 63 wTab) ∧ Hid (Below w.heap.size w wr)) (fun i _ => 6 - (intOf i).toNat)
  case atStart => exact ⟨0, by omega, by simp, fun j hj => absurd hj (by omega), HZ1.out, HT.out, HF1.out⟩
  case round =>
    clear HZ1 HT HF1
    obtain ⟨k, hk, rfl, hno, hZ, hT, hF⟩ := hrel
    by_cases hlt : k < 6
    · obtain ⟨hsz, h1, hnm, hrg⟩ := wWd_facts hlt
      have he := HQ.out k hlt
      have RG : Hid (wr.rangeAt (w.heap.size + 1) (k * 5) (wWd k).toList) := fun j v hj => by rw [hT.out.cell]; exact hrg j v hj
      obtain ⟨T, eT⟩ : ∃ T, T = wWd k := ⟨_, rfl⟩
      rw [← eT] at hsz h1 hnm RG
      have ET := hidd eT
      have SZ := hidd hsz
      have S5 : Hid ((Tryd.prog.info? 63).map (·.size) = some T.size) := by rw [hsz]; exact sizeWd
      have SL : Hid ((Tryd.prog.info? 63).map (·.size) = some T.toList.length) := by rw [Array.length_toList, hsz]; exact sizeWd
      have H1 := hidd h1
      have HNM := hidd hnm
      clear eT hsz h1 hnm hrg
      have j1 : (k : Int) < 6 := by omega
      have j0 : (0 : Int) ≤ (k : Int) := Int.natCast_nonneg _
      have b1 : decide ((k : Int) < 6) = true := by simp; omega
      go_upto_region 4 with (first | refine wpList_load_mid rfl 63 _ rfl (w.heap.size + 1) (k * 5) rfl T.toList _ RG.out Tryd.underlying63 rfl SL.out ?_ | refine wpList_store_row rfl 63 _ _ rfl wr.heap.size T rfl rfl 63 _ (Blk.new _ _ _) S5.out (by rw [SZ.out]; rfl) H1.out ?_)
      have HBT := hidd ((Blk.new wr 63 #[.string ⟨#[]⟩, .int .i64 0, .nilFunc, .nilFunc, .nilFunc]).set T)
      have HFB := hidd (below_setRow (fresh_alloc wr (.cells #[.string ⟨#[]⟩, .int .i64 0, .nilFunc, .nilFunc, .nilFunc] 63)) (Nat.le_refl _) T)
      generalize (wr.alloc (.cells #[.string ⟨#[]⟩, .int .i64 0, .nilFunc, .nilFunc, .nilFunc] 63)).setRow wr.heap.size T = w3 at *
      have c0 := HBT.out.cell 0
      rw [HNM.out] at c0
      have HZ3 := hidd (hZ.out.fresh HFB.out)
      have HT3 := hidd (hT.out.fresh HFB.out)
      have HF3 := hidd (fresh_trans hF.out HFB.out)
      clear hZ hT hF HFB RG SL HNM
      by_cases heq : wNm k = l
      · have hd : decide (wNm k = l) = true := by simp [heq]
        rw [hd] at he
        have HL : Hid (l = wNm k) := heq.symm
        clear hd
        clear heq
        generalize strOfNums (wNm k) = sk at *
        go_wp2_with (first | refine wpList_load_row rfl 63 _ rfl wr.heap.size rfl 63 T (0, 0) _ HBT.out Tryd.underlying63 rfl S5.out ?_ | refine wpList_store_row rfl 63 _ _ rfl w.heap.size T rfl rfl 63 _ HZ3.out S5.out (by rw [SZ.out]; rfl) H1.out ?_)
        refine bodyPost_ret (ret_cell_tmp Tryd.results29 _ _ w.heap.size 63 T (0, 0) _ (.bool true) rfl (HZ3.out.set T) Tryd.underlying63 rfl S5.out rfl) rfl ?_
        exact ⟨below_setRow HF3.out (Nat.le_refl _) T, .inl ⟨k, hlt, HL.out, by rw [ET.out]⟩⟩
      · simp only [heq, decide_false] at he
        have HN : Hid (∀ j, j < k + 1 → l ≠ wNm j) := fun j hj => by
          by_cases e : j = k
          · subst e; exact fun h => heq h.symm
          · exact hno.out j (by omega)
        clear heq HBT H1 S5 SZ ET
        generalize strOfNums (wNm k) = sk at *
        go_wp2
        go_roundw
        case rel => exact ⟨k + 1, by omega, by go_num, HN.out, HZ3.out, HT3.out, HF3.out⟩
        case measure => simp [intOf]; omega
    · obtain rfl : k = 6 := by omega
      have SW : Hid ((Tryd.prog.info? 63).map (·.size) = some wz.size) := sizeWd
      have HW1 : Hid (wz.all (·.oneCell') = true) := by show _ = _; decide +kernel
      go_wp2_with (refine wpList_store_row rfl 63 _ _ rfl w.heap.size wz rfl rfl 63 _ hZ.out SW.out rfl HW1.out ?_)
      refine bodyPost_ret (ret_cell_tmp Tryd.results29 _ _ w.heap.size 63 wz (0, 0) _ (.bool false) rfl (hZ.out.set wz) Tryd.underlying63 rfl SW.out rfl) rfl ?_
      exact ⟨below_setRow hF.out (Nat.le_refl _) wz, .inr ⟨hno.out, rfl⟩⟩
theorem wordOf_ok {k : Nat} (hk : k < 6) (w : World) : Calls Tryd.prog 29 #[.string (strOfNums (wNm k))] w fun e w' => e = .returned (.tuple #[.agg (wWd k), .bool true]) ∧ Below w.heap.size w w' := by
  have hinj : ∀ j, j < 6 → wNm k = wNm j → j = k := fun j hj e => by
    have hl := congrArg List.length e
    match k, hk, j, hj with
    | 0, _, 0, _ => rfl
    | 1, _, 1, _ => rfl
    | 2, _, 2, _ => rfl
    | 3, _, 3, _ => rfl
    | 4, _, 4, _ => rfl
    | 5, _, 5, _ => rfl
    | 0, _, 1, _ => simp [wNm] at e
    | 0, _, 2, _ => simp [wNm] at e
    | 0, _, 3, _ => simp [wNm] at e
    | 0, _, 4, _ => simp [wNm] at e
    | 0, _, 5, _ => simp [wNm] at e
    | 1, _, 0, _ => simp [wNm] at e
    | 1, _, 2, _ => simp [wNm] at e
    | 1, _, 3, _ => simp [wNm] at e
    | 1, _, 4, _ => simp [wNm] at e
    | 1, _, 5, _ => simp [wNm] at e
    | 2, _, 0, _ => simp [wNm] at e
    | 2, _, 1, _ => simp [wNm] at e
    | 2, _, 3, _ => simp [wNm] at e
    | 2, _, 4, _ => simp [wNm] at e
    | 2, _, 5, _ => simp [wNm] at e
    | 3, _, 0, _ => simp [wNm] at e
    | 3, _, 1, _ => simp [wNm] at e
    | 3, _, 2, _ => simp [wNm] at e
    | 3, _, 4, _ => simp [wNm] at e
    | 3, _, 5, _ => simp [wNm] at e
    | 4, _, 0, _ => simp [wNm] at e
    | 4, _, 1, _ => simp [wNm] at e
    | 4, _, 2, _ => simp [wNm] at e
    | 4, _, 3, _ => simp [wNm] at e
    | 4, _, 5, _ => simp [wNm] at e
    | 5, _, 0, _ => simp [wNm] at e
    | 5, _, 1, _ => simp [wNm] at e
    | 5, _, 2, _ => simp [wNm] at e
    | 5, _, 3, _ => simp [wNm] at e
    | 5, _, 4, _ => simp [wNm] at e
  have hB : Byt (wNm k) := by
    match k, hk with
    | 0, _ => exact (by decide : ∀ x ∈ wNm 0, 0 ≤ x ∧ x ≤ 255)
    | 1, _ => exact (by decide : ∀ x ∈ wNm 1, 0 ≤ x ∧ x ≤ 255)
    | 2, _ => exact (by decide : ∀ x ∈ wNm 2, 0 ≤ x ∧ x ≤ 255)
    | 3, _ => exact (by decide : ∀ x ∈ wNm 3, 0 ≤ x ∧ x ≤ 255)
    | 4, _ => exact (by decide : ∀ x ∈ wNm 4, 0 ≤ x ∧ x ≤ 255)
    | 5, _ => exact (by decide : ∀ x ∈ wNm 5, 0 ≤ x ∧ x ≤ 255)
  refine (wordOf_any hB w).mono ?_
  rintro e w' ⟨hf, ⟨j, hj, he, rfl⟩ | ⟨hn, _⟩⟩
  · obtain rfl := hinj j hj he
    exact ⟨rfl, hf⟩
  · exact absurd rfl (hn k hk)
end Go.Proofs.YtemmghneohnigaaDoor
