import Derived.Test.YtemmghneohnigaaDoorWpE
import Derived.Deep.RegionHeld3
namespace Go.Proofs.YtemmghneohnigaaDoor
open Go.RowKit
/-! readText; Parse of a line that is known. -/
theorem Blk.chg {w w' : World} {S : Nat → Prop} {b : Nat} {t : TypeId} {cs : Array Value} (h : Blk w b t cs) (c : Chg w w' S) (hS : ¬ S b) : Blk w' b t cs := (c.block b h.lt hS).trans h
theorem Blk.put {w : World} {b : Nat} {t : TypeId} {cs : Array Value} (h : Blk w b t cs) (j : Nat) (v : Value) : Blk (w.setCell ⟨b, j, none⟩ v) b t (cs.setIfInBounds j v) := by
  unfold Blk at *
  rw [setCell_eq_setRow w b j _ _ _ _ h, setRow_heap w b _ _ _ _ h]
set_option maxRecDepth 20000 in
theorem rtext_ok {w : World} {rb lb : Nat} {q b : List Int} {f : Bool} {c0 c1 c2 c3 c4 c5 c6 : Value} (h : Rdr w rb (32 :: q) f) (hB : Byt q) (hl : q.length ≤ 140737488351232) (h6 : 6 ≤ rb) (hE : Env w) (hb : UnqP q b) (hL : Blk w lb 38 #[c0, c1, c2, c3, c4, c5, c6]) (hne : lb ≠ rb) :
    Calls Tryd.prog 65 #[.pointer (some ⟨rb, 0, none⟩), .pointer (some ⟨lb, 0, none⟩)] w fun e w' => ∃ ao cap, e = .returned (.tuple #[]) ∧ Rdr w' rb (q.drop (lit b).length) f ∧ Blk w' lb 38 #[c0, c1, .slice ao b.length cap, c3, c4, c5, c6] ∧ Own w' w.heap.size 5 1 (.slice ao b.length cap) b.length (byc b) ∧ Chg w w' (fun b => b = rb ∨ b = lb) := by
  have H1 := hidd (lit_ok h hB hl h6 hE hb)
  have HL := hidd hL
  have hlb := hL.lt
  clear h hE hb hL
  go_enter Tryd.func65, Tryd.ntmps65
  go_wp2_with (go_at_call 79; with_reducible refine (H1.out).mono ?_; rintro e w1 ⟨ao, cap, rfl, r1, o1, k1⟩; have L1 := HL.out.chg k1 hne; have y2 := L1.cell 2; have z2 := L1.frozen 2; simp at y2)
  go_end0
  refine ⟨ao, cap, rfl, r1.chg (Chg.of_set w1 lb 2 _) (fun e => hne e.symm), L1.put 2 _, ?_, (k1.imp (fun _ _ h => .inl h)).trans (Chg.of_set w1 lb 2 _) (fun _ _ h => .inr h)⟩
  exact o1.chg (Chg.of_set w1 lb 2 _) (fun x hx e => by have := (o1.lt x hx).1; omega)
theorem sizeLn : (Tryd.prog.info? 38).map (·.size) = some 7 := by kernel_rfl
theorem sizeRd : (Tryd.prog.info? 72).map (·.size) = some 2 := by kernel_rfl
def lz : Array Value := #[.string ⟨#[]⟩, .int .i64 0, .slice none 0 0, .slice none 0 0, .int .u64 0, .string ⟨#[]⟩, .slice none 0 0]
theorem nm4_no32 : ∀ x ∈ wNm 4, x ≠ 32 := by decide
theorem nm4_byt : Byt (wNm 4) := (by decide : ∀ x ∈ wNm 4, 0 ≤ x ∧ x ≤ 255)
/-- what stands behind the making of the line -/
structure P7 (w : World) (R wb : Nat) (n : Int) (r : List Int) (w7 : World) (lb : Nat) : Prop where
  ln : Blk w7 lb 38 #[.string ⟨#[116, 101, 120, 116]⟩, .int .i64 n, .slice none 0 0, .slice none 0 0, .int .u64 0, .string ⟨#[]⟩, .slice none 0 0]
  rd : Rdr w7 (R + 1) r false
  env : Env w7
  wd : Blk w7 wb 63 #[.string ⟨#[116, 101, 120, 116]⟩, .int .i64 0, .func (.func 65) #[] #[], .func (.func 66) #[] #[], .func (.func 67) #[] #[]]
  res : Blk w7 R 38 #[.string ⟨#[]⟩, .int .i64 0, .slice none 0 0, .slice none 0 0, .int .u64 0, .string ⟨#[]⟩, .slice none 0 0]
  low : Below w.heap.size w w7
  big : R + 2 ≤ lb
theorem chg_set7 (w : World) (g : Nat) (a0 a1 a2 a3 a4 a5 a6 : Value) : Chg w (((((((w.setCell ⟨g, 0, none⟩ a0).setCell ⟨g, 1, none⟩ a1).setCell ⟨g, 2, none⟩ a2).setCell ⟨g, 3, none⟩ a3).setCell ⟨g, 4, none⟩ a4).setCell ⟨g, 5, none⟩ a5).setCell ⟨g, 6, none⟩ a6) (fun b => b = g) :=
  ((((((Chg.of_set w g 0 a0).trans (Chg.of_set _ g 1 a1) (fun _ _ h => h)).trans (Chg.of_set _ g 2 a2) (fun _ _ h => h)).trans (Chg.of_set _ g 3 a3) (fun _ _ h => h)).trans (Chg.of_set _ g 4 a4) (fun _ _ h => h)).trans (Chg.of_set _ g 5 a5) (fun _ _ h => h)).trans (Chg.of_set _ g 6 a6) (fun _ _ h => h)
set_option maxRecDepth 20000 in
set_option maxHeartbeats 4000000 in
theorem parse_text {n : Int} {b : List Int} (h0 : 0 ≤ n) (h1 : n ≤ 2147483647) (hb : Byt b) (hl : (wNm 4 ++ 32 :: (numL n ++ 32 :: lit b)).length ≤ 8192) {w : World} (hE : Env w) :
    Calls Tryd.prog 16 #[.string (strOfNums (wNm 4 ++ 32 :: (numL n ++ 32 :: lit b)))] w fun e w' => ∃ ao cap, e = .returned (.tuple #[.agg #[.string (strOfNums (wNm 4)), .int .i64 n, .slice ao b.length cap, .slice none 0 0, .int .u64 0, .string ⟨#[]⟩, .slice none 0 0], .int .i64 0]) ∧ Own w' w.heap.size 5 1 (.slice ao b.length cap) b.length (byc b) ∧ Below w.heap.size w w' := by
  have hBl := lit_byt hb
  have hBn : Byt (numL n) := numsU_byt _
  have hBq : Byt (32 :: lit b) := byt_cons (by omega) hBl
  have hBt : Byt (wNm 4 ++ 32 :: (numL n ++ 32 :: lit b)) := nm4_byt.app (byt_cons (by omega) (hBn.app hBq))
  obtain ⟨t1, t2⟩ := tw_app (r := numL n ++ 32 :: lit b) nm4_no32
  obtain ⟨t3, t4⟩ := tw_app (r := lit b) (itoa_no32 n)
  have hsz : (strOfNums (wNm 4 ++ 32 :: (numL n ++ 32 :: lit b))).size = (wNm 4 ++ 32 :: (numL n ++ 32 :: lit b)).length := strOfNums_size _
  obtain ⟨N, eN⟩ : ∃ N, N = (wNm 4 ++ 32 :: (numL n ++ 32 :: lit b)).length := ⟨_, rfl⟩
  rw [← eN] at hsz hl
  have hq1 : (numL n ++ 32 :: lit b).length ≤ 8192 := by
    have : (numL n ++ 32 :: lit b).length ≤ N := by rw [eN]; simp; omega
    omega
  have hq2 : (lit b).length ≤ 8192 := by simp at hq1; omega
  clear eN
  have HUP := hidd (fun (w1 : World) rb f (h : Rdr w1 rb (wNm 4 ++ 32 :: (numL n ++ 32 :: lit b)) f) => upto_any h hBt (by rw [← strOfNums_size, hsz]; omega))
  rw [t1, t2] at HUP
  have HWO := hidd (fun w => wordOf_ok (k := 4) (by omega) w)
  have HID := hidd (fun (w1 : World) rb f (h : Rdr w1 rb (32 :: (numL n ++ 32 :: lit b)) f) (h6 : 6 ≤ rb) (hE1 : Env w1) => id_ok h (hBn.app hBq) (by omega) h6 hE1 h0 h1 t3)
  rw [t4] at HID
  have HRT := hidd (fun (w1 : World) rb lb f c0 c1 c2 c3 c4 c5 c6 (h : Rdr w1 rb (32 :: lit b) f) (h6 : 6 ≤ rb) (hE1 : Env w1) (hL : Blk w1 lb 38 #[c0, c1, c2, c3, c4, c5, c6]) (hne : lb ≠ rb) => rtext_ok h hBl (by omega) h6 hE1 (b := b) ⟨hb, [], by simp⟩ hL hne)
  rw [List.drop_length] at HRT
  have HEN := hidd (fun (w1 : World) rb (h : Rdr w1 rb [] false) => ends_any h)
  have HE := hidd hE
  have hbig := hE.big
  clear t1 t2 t3 t4 hBt hBq hBn hBl hE hq1 hq2 hb h0 h1
  generalize hts : strOfNums (wNm 4 ++ 32 :: (numL n ++ 32 :: lit b)) = st at *
  have HTS := hidd hts
  clear hts
  go_enter Tryd.func16, Tryd.ntmps16
  go_upto_region 4 with fail
  have HZ0 := hidd ((Blk.new w 38 lz).fresh (fresh_alloc _ (.cells #[.string st, .bool false] 72)))
  have HR0 : Hid (Rdr ((w.alloc (.cells lz 38)).alloc (.cells #[.string st, .bool false] 72)) (w.heap.size + 1) (wNm 4 ++ 32 :: (numL n ++ 32 :: lit b)) false) := by
    have := Blk.new (w.alloc (.cells lz 38)) 72 #[.string st, .bool false]
    have e : (w.alloc (.cells lz 38)).heap.size = w.heap.size + 1 := by simp
    rw [e] at this
    show Rdr _ _ _ _
    unfold Rdr
    rw [HTS.out]
    exact this
  have HF0 := hidd (fresh_trans (fresh_alloc w (.cells lz 38)) (fresh_alloc _ (.cells #[.string st, .bool false] 72)))
  unfold lz at HZ0 HR0 HF0
  generalize (w.alloc (.cells #[.string ⟨#[]⟩, .int .i64 0, .slice none 0 0, .slice none 0 0, .int .u64 0, .string ⟨#[]⟩, .slice none 0 0] 38)).alloc (.cells #[.string st, .bool false] 72) = w2 at *
  obtain ⟨R, eR⟩ : ∃ R, R = w.heap.size := ⟨_, rfl⟩
  have ER := hidd eR
  rw [← eR] at HZ0 HR0 ⊢
  have hR6 : 6 ≤ R := by omega
  have HE2 := hidd (HE.out.fresh HF0.out)
  have SW5 : Hid ((Tryd.prog.info? 63).map (·.size) = some (wWd 4).size) := by
    show _ = _
    rw [(wWd_facts (k := 4) (by omega)).1]; exact sizeWd
  have SO5 : Hid ((#[.string ⟨#[]⟩, .int .i64 0, .nilFunc, .nilFunc, .nilFunc] : Array Value).size = (wWd 4).size) := by
    show _ = _
    rw [(wWd_facts (k := 4) (by omega)).1]; rfl
  have S15 := hidd ((wWd_facts (k := 4) (by omega)).2.1)
  have HW4 : Hid (wWd 4 = #[.string ⟨#[116, 101, 120, 116]⟩, .int .i64 0, .func (.func 65) #[] #[], .func (.func 66) #[] #[], .func (.func 67) #[] #[]]) := rfl
  generalize hT : wWd 4 = T at *
  clear hT eR
  go_upto_region 5 with (first | (go_at_call 34; with_reducible refine (HUP.out _ _ _ HR0.out).mono ?_; rintro e w3 ⟨rfl, r3, k3⟩) | (go_at_call 29; with_reducible refine (HWO.out _).mono ?_; rintro e w4 ⟨rfl, f4⟩) | refine wpList_store_row rfl 63 _ _ rfl w4.heap.size T rfl rfl 63 _ (Blk.new _ _ _) SW5.out SO5.out S15.out ?_)
  have hB5 := (Blk.new w4 63 #[.string ⟨#[]⟩, .int .i64 0, .nilFunc, .nilFunc, .nilFunc]).set T
  have hF5 := below_setRow (fresh_alloc w4 (.cells #[.string ⟨#[]⟩, .int .i64 0, .nilFunc, .nilFunc, .nilFunc] 63)) (Nat.le_refl _) T
  generalize (w4.alloc (.cells #[.string ⟨#[]⟩, .int .i64 0, .nilFunc, .nilFunc, .nilFunc] 63)).setRow w4.heap.size T = w5 at *
  have hf45 := fresh_trans f4 hF5
  have HR5 := hidd (r3.fresh hf45)
  have HZ5 := hidd ((HZ0.out.chg k3 (by omega)).fresh hf45)
  have k5 := k3.post hf45
  have HE5 := hidd (HE2.out.chg k5 (fun x hx => by omega))
  have HF5 : Hid (Below w.heap.size w w5) := k5.below HF0.out (by have := HF0.out.size; omega) (fun x hx => by rw [hx, ER.out]; omega)
  rw [HW4.out] at hB5
  obtain ⟨wb, ewb⟩ : ∃ wb, wb = w4.heap.size := ⟨_, rfl⟩
  rw [← ewb] at hB5 ⊢
  have hwb1 : R + 2 ≤ wb := by
    have := HR0.out.cells.2.2.2
    have := k3.size
    have := f4.size
    omega
  have hwb2 := hB5.lt
  have HB5 := hidd hB5
  clear hB5 hF5 hf45 r3 f4 k3 k5 HUP HWO HR0 HZ0 HE2 HF0 SW5 SO5 S15 HE ewb
  go_upto_region 7 with fail
  have x0 := HB5.out.cell 0
  simp at x0
  have HBC : Hid (∀ w6 : World, ∀ u6 : World, Below w5.heap.size w5 u6 → Chg u6 w6 (fun b => b = R + 1) → w6.cell? ⟨wb, 0, none⟩ = some (.string ⟨#[116, 101, 120, 116]⟩)) := fun w6 u6 h1 h2 => by
    have := ((HB5.out.fresh h1).chg h2 (by omega)).cell 0
    simpa using this
  have HA : Hid (∀ w6 : World, Rdr w6 (R + 1) (32 :: lit b) false → Chg w5.drew w6 (fun b => b = R + 1) → P7 w R wb n (32 :: lit b) (w6.alloc (.cells #[.string ⟨#[116, 101, 120, 116]⟩, .int .i64 n, .slice none 0 0, .slice none 0 0, .int .u64 0, .string ⟨#[]⟩, .slice none 0 0] 38)) w6.heap.size) := fun w6 r6 k6 => by
    have k := (Chg.of_below (fun b => b = R + 1) (Below.refl w5.heap.size w5).drew).trans k6 (fun _ _ h => h)
    have fa := fresh_alloc w6 (.cells #[.string ⟨#[116, 101, 120, 116]⟩, .int .i64 n, .slice none 0 0, .slice none 0 0, .int .u64 0, .string ⟨#[]⟩, .slice none 0 0] 38)
    have hlow : Below w.heap.size w w6 := k.below HF5.out HF5.out.size (fun x hx => by rw [hx, ER.out]; omega)
    refine ⟨Blk.new _ _ _, r6.fresh fa, (HE5.out.chg k (fun x hx => by omega)).fresh fa, (HB5.out.chg k (by omega)).fresh fa, (HZ5.out.chg k (by omega)).fresh fa, fresh_trans hlow fa, ?_⟩
    have := k.size
    omega
  have HBB : Hid (∀ w6 : World, Rdr w6 (R + 1) (32 :: lit b) false → Chg (w5.alloc (.cells #[.string ⟨#[]⟩, .int .i64 0, .slice none 0 0, .slice none 0 0, .int .u64 0, .string ⟨#[]⟩, .slice none 0 0] 38)).drew w6 (fun b => b = R + 1) → P7 w R wb n (32 :: lit b) (((((((w6.setCell ⟨w5.heap.size, 0, none⟩ (.string ⟨#[116, 101, 120, 116]⟩)).setCell ⟨w5.heap.size, 1, none⟩ (.int .i64 n)).setCell ⟨w5.heap.size, 2, none⟩ (.slice none 0 0)).setCell ⟨w5.heap.size, 3, none⟩ (.slice none 0 0)).setCell ⟨w5.heap.size, 4, none⟩ (.int .u64 0)).setCell ⟨w5.heap.size, 5, none⟩ (.string ⟨#[]⟩)).setCell ⟨w5.heap.size, 6, none⟩ (.slice none 0 0)) w5.heap.size) := fun w6 r6 k6 => by
    have fa := (fresh_alloc w5 (.cells #[.string ⟨#[]⟩, .int .i64 0, .slice none 0 0, .slice none 0 0, .int .u64 0, .string ⟨#[]⟩, .slice none 0 0] 38)).drew
    have k := (Chg.of_below (fun b => b = R + 1) fa).trans k6 (fun _ _ h => h)
    have L6 := ((Blk.new w5 38 #[.string ⟨#[]⟩, .int .i64 0, .slice none 0 0, .slice none 0 0, .int .u64 0, .string ⟨#[]⟩, .slice none 0 0]).fresh (Below.refl _ _).drew).chg k6 (by omega)
    have c7 := chg_set7 w6 w5.heap.size (.string ⟨#[116, 101, 120, 116]⟩) (.int .i64 n) (.slice none 0 0) (.slice none 0 0) (.int .u64 0) (.string ⟨#[]⟩) (.slice none 0 0)
    have hlow : Below w.heap.size w w6 := k.below HF5.out HF5.out.size (fun x hx => by rw [hx, ER.out]; omega)
    have hz5 := HF5.out.size
    have hk := k.size
    refine ⟨(((((((L6.put 0 _).put 1 _).put 2 _).put 3 _).put 4 _).put 5 _).put 6 _), r6.chg c7 (by omega), (HE5.out.chg k (fun x hx => by omega)).chg c7 (fun x hx => by omega), (HB5.out.chg k (by omega)).chg c7 (by omega), (HZ5.out.chg k (by omega)).chg c7 (by omega), c7.below hlow (by omega) (fun x hx => by omega), by omega⟩
  have h61 : 6 ≤ R + 1 := by omega
  go_region_with (first
    | (go_at_call 35; with_reducible refine (HID.out _ _ _ (HR5.out.fresh (Below.refl _ _).drew) h61 (HE5.out.fresh (Below.refl _ _).drew)).mono ?_; rintro e w6 ⟨rfl, r6, k6⟩; have y0 := HBC.out _ _ (Below.refl _ _).drew k6; have y1 := fresh_cell (fresh_alloc w6 (.cells #[.string ⟨#[]⟩, .int .i64 0, .slice none 0 0, .slice none 0 0, .int .u64 0, .string ⟨#[]⟩, .slice none 0 0] 38)) y0)
    | (go_at_call 35; with_reducible refine (HID.out _ _ _ (HR5.out.fresh (fresh_alloc w5 _).drew) h61 (HE5.out.fresh (fresh_alloc w5 _).drew)).mono ?_; rintro e w6 ⟨rfl, r6, k6⟩; have y0 := HBC.out _ _ (fresh_alloc w5 _).drew k6; have L6 := ((Blk.new w5 38 #[.string ⟨#[]⟩, .int .i64 0, .slice none 0 0, .slice none 0 0, .int .u64 0, .string ⟨#[]⟩, .slice none 0 0]).fresh (Below.refl _ _).drew).chg k6 (by omega); have l0 := L6.cell 0; have l1 := L6.cell 1; have l2 := L6.cell 2; have l3 := L6.cell 3; have l4 := L6.cell 4; have l5 := L6.cell 5; have l6 := L6.cell 6; simp at l0 l1 l2 l3 l4 l5 l6; have lf := L6.frozen))
  all_goals
    first
      | (have HP := HA.out w6 r6 k6
         obtain ⟨lb, elb⟩ : ∃ x, x = w6.heap.size := ⟨_, rfl⟩
         obtain ⟨w7, ew7⟩ : ∃ x, x = w6.alloc (.cells #[.string ⟨#[116, 101, 120, 116]⟩, .int .i64 n, .slice none 0 0, .slice none 0 0, .int .u64 0, .string ⟨#[]⟩, .slice none 0 0] 38) := ⟨_, rfl⟩
         rw [← elb, ← ew7] at HP ⊢
         clear elb ew7)
      | (have HP := HBB.out w6 r6 k6
         obtain ⟨lb, elb⟩ : ∃ x, x = w5.heap.size := ⟨_, rfl⟩
         rw [← elb] at HP ⊢
         obtain ⟨w7, ew7⟩ : ∃ x, x = ((((((w6.setCell ⟨lb, 0, none⟩ (.string ⟨#[116, 101, 120, 116]⟩)).setCell ⟨lb, 1, none⟩ (.int .i64 n)).setCell ⟨lb, 2, none⟩ (.slice none 0 0)).setCell ⟨lb, 3, none⟩ (.slice none 0 0)).setCell ⟨lb, 4, none⟩ (.int .u64 0)).setCell ⟨lb, 5, none⟩ (.string ⟨#[]⟩)).setCell ⟨lb, 6, none⟩ (.slice none 0 0) := ⟨_, rfl⟩
         rw [← ew7] at HP ⊢
         clear elb ew7)
  all_goals
    clear y0
    (try clear y1)
    (try clear L6 l0 l1 l2 l3 l4 l5 l6 lf)
    clear r6 k6 x0 HBC HA HBB HB5 HZ5 HE5 HF5 HR5 HID hwb2
    have p1 := HP.wd.cell 1
    have p2 := HP.wd.cell 2
    simp at p1 p2
    have hlbb := HP.big
    have HP9 := hidd HP
    have HC := hidd (HRT.out w7 (R + 1) lb false _ _ _ _ _ _ _ HP.rd h61 HP.env HP.ln (by omega))
    clear HP
    go_wp2
    go_loopw [28] (fun i wr => i = .int .i64 0 ∧ wr = w7) (fun _ _ => 0)
    case atStart => exact ⟨rfl, rfl⟩
    case round =>
      obtain ⟨rfl, rfl⟩ := hrel
      go_upto_region 15 with (first | (go_at_call 65; with_reducible refine (HC.out).mono ?_; rintro e w8 ⟨ao, cp, rfl, r8, l8, o8, k8⟩) | (go_at_call 37; with_reducible refine (HEN.out _ _ r8).mono ?_; rintro e w9 ⟨rfl, hw9⟩; rw [hw9]; clear hw9))
      have hz := HP9.out.res.chg k8 (by omega)
      have SL7 : Hid ((Tryd.prog.info? 38).map (·.size) = some (#[.string ⟨#[116, 101, 120, 116]⟩, .int .i64 n, .slice ao b.length cp, .slice none 0 0, .int .u64 0, .string ⟨#[]⟩, .slice none 0 0] : Array Value).size) := sizeLn
      have S17 : Hid ((#[.string ⟨#[116, 101, 120, 116]⟩, .int .i64 n, .slice ao b.length cp, .slice none 0 0, .int .u64 0, .string ⟨#[]⟩, .slice none 0 0] : Array Value).all (·.oneCell') = true) := by show _ = _; simp [Value.oneCell']
      have HZ := hidd hz
      have HL8 := hidd l8
      have HFIN : Hid (Own (w8.setRow R #[.string ⟨#[116, 101, 120, 116]⟩, .int .i64 n, .slice ao b.length cp, .slice none 0 0, .int .u64 0, .string ⟨#[]⟩, .slice none 0 0]) w.heap.size 5 1 (.slice ao b.length cp) b.length (byc b) ∧ Below w.heap.size w (w8.setRow R #[.string ⟨#[116, 101, 120, 116]⟩, .int .i64 n, .slice ao b.length cp, .slice none 0 0, .int .u64 0, .string ⟨#[]⟩, .slice none 0 0])) := by
        have hRw := HP9.out.res.lt
        have hlow : Below w.heap.size w w8 := k8.below HP9.out.low HP9.out.low.size (fun x hx => by rcases hx with hx | hx <;> rw [hx] <;> rw [← ER.out] <;> omega)
        refine ⟨?_, below_setRow hlow (by rw [ER.out]; exact Nat.le_refl _) _⟩
        have ho := o8.weaken (base' := w.heap.size) (by rw [← ER.out]; omega)
        refine ⟨ho.1, ?_⟩
        rcases o8.2 with hn | ⟨g, cap, cur, e1, hb, hgg, r⟩
        · exact .inl hn
        · refine .inr ⟨g, cap, cur, e1, by rw [← ER.out]; omega, ?_, r⟩
          rw [setRow_other _ _ _ _ (by omega)]; exact hgg
      clear r8 l8 o8 k8 hz
      go_wp2_with (first | refine wpList_load_row rfl 38 _ rfl lb rfl 38 _ (0, 0) _ HL8.out Tryd.underlying38 rfl SL7.out ?_ | refine wpList_store_row rfl 38 _ _ rfl R _ rfl rfl 38 _ HZ.out SL7.out rfl S17.out ?_)
      refine bodyPost_ret (ret_cell_tmp Tryd.results16 _ _ R 38 _ (0, 0) _ (.int .i64 0) rfl (HZ.out.set _) Tryd.underlying38 rfl SL7.out rfl) rfl ?_
      exact ⟨ao, cp, rfl, HFIN.out⟩
end Go.Proofs.YtemmghneohnigaaDoor
