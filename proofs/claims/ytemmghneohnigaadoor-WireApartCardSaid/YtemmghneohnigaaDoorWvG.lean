import Derived.Test.YtemmghneohnigaaDoorVF
import Derived.BigRegion
namespace Go.Proofs.YtemmghneohnigaaDoor
open Go.RowKit
/-! given: a line with marks behind its lists. -/
set_option maxRecDepth 20000 in
set_option maxHeartbeats 8000000 in
theorem given_any {w : World} {t nums : List Int} {st : List (List Int)} {wd gd : ByteArray} {n sd : Int} {ao bo co : Option Addr} {ac bc cc : Nat} (hr : RdA w ao 1 t.length ac (byc t)) (hn : RdA w bo 1 nums.length bc (fun j => .int .i64 (nums.getD j 0))) (hs : RdA w co 1 st.length cc (stc st)) (htl : t.length ≤ 140737488351232) (hnl : nums.length ≤ 17592186043904) (hsl : st.length ≤ 8796093021952) :
    Calls Tryd.prog 15 #[.agg (lnA wd n ao t.length ac bo nums.length bc sd gd co st.length cc)] w fun e w' => ∃ g1 c1 g2 c2 g3 c3, e = .returned (.agg (lnA wd n (some ⟨g1, 0, none⟩) t.length c1 (some ⟨g2, 0, none⟩) nums.length c2 sd gd (some ⟨g3, 0, none⟩) st.length c3)) ∧ Own w' w.heap.size 5 1 (.slice (some ⟨g1, 0, none⟩) (t.length + 64) c1) (t.length + 64) (mkB t) ∧ Own w' w.heap.size 3 1 (.slice (some ⟨g2, 0, none⟩) (nums.length + 64) c2) (nums.length + 64) (mkI nums) ∧ Own w' w.heap.size 9 1 (.slice (some ⟨g3, 0, none⟩) (st.length + 64) c3) (st.length + 64) (mkS st) ∧ Below w.heap.size w w' := by
  obtain ⟨a, ea⟩ : ∃ a, a = t.length := ⟨_, rfl⟩
  obtain ⟨b, eb⟩ : ∃ b, b = nums.length := ⟨_, rfl⟩
  obtain ⟨c, ec⟩ : ∃ c, c = st.length := ⟨_, rfl⟩
  have HCB := hidd (fun (w1 : World) (f1 : Below w.heap.size w w1) => copyB_any (hr.fresh f1) (by omega))
  have HCI := hidd (fun (w1 : World) (f1 : Below w.heap.size w w1) => copyI_any (hn.fresh f1) (by omega))
  have HS := hidd hs
  have EA := hidd ea
  have EB := hidd eb
  have EC := hidd ec
  have hcc : c ≤ cc := by rw [ec]; exact hs.le
  have hcm : cc ≤ maxLen := hs.top
  have hac : a ≤ ac := by rw [ea]; exact hr.le
  have ham : ac ≤ maxLen := hr.top
  have hbc : b ≤ bc := by rw [eb]; exact hn.le
  have hbm : bc ≤ maxLen := hn.top
  simp only [← ea, ← eb, ← ec] at HCB HCI HS htl hnl hsl ⊢
  unfold maxLen at hcm ham hbm
  clear hr hn hs ea eb ec
  have HB0 := hidd ((Blk.new w 35 (lnA wd n ao a ac bo b bc sd gd co c cc)).fresh (fresh_alloc _ (.cells lz7 38)))
  have HZ0 : Hid (Blk ((w.alloc (.cells (lnA wd n ao a ac bo b bc sd gd co c cc) 35)).alloc (.cells lz7 38)) (w.heap.size + 1) 38 lz7) := by
    have := Blk.new (w.alloc (.cells (lnA wd n ao a ac bo b bc sd gd co c cc) 35)) 38 lz7
    have e : (w.alloc (.cells (lnA wd n ao a ac bo b bc sd gd co c cc) 35)).heap.size = w.heap.size + 1 := by simp
    rw [e] at this
    exact this
  have HF0 := hidd (fresh_trans (fresh_alloc w (.cells (lnA wd n ao a ac bo b bc sd gd co c cc) 35)) (fresh_alloc _ (.cells lz7 38)))
  unfold lz7 at HB0 HZ0 HF0
  go_enter Tryd.func15, Tryd.ntmps15
  go_upto_region 1 with fail
  generalize (w.alloc (.cells (lnA wd n ao a ac bo b bc sd gd co c cc) 35)).alloc (.cells #[.string ⟨#[]⟩, .int .i64 0, .slice none 0 0, .slice none 0 0, .int .u64 0, .string ⟨#[]⟩, .slice none 0 0] 38) = w2 at *
  have x2 := HB0.out.cell 2
  simp at x2
  have HC := hidd (HCB.out _ HF0.out)
  go_upto_region 2 with (go_at_call 21; with_reducible refine (HC.out).mono ?_; rintro e w3 ⟨v3, rfl, o3, f3⟩)
  have HF3 := hidd (fresh_trans HF0.out f3)
  have x3 := (HB0.out.fresh f3).cell 3
  simp at x3
  have HC' := hidd (HCI.out _ HF3.out)
  clear HC x2
  go_upto_region 3 with (go_at_call 22; with_reducible refine (HC'.out).mono ?_; rintro e w4 ⟨v4, rfl, o4, f4⟩)
  have HG : Hid (Gv w (lnA wd n ao a ac bo b bc sd gd co c cc) #[.string ⟨#[]⟩, .int .i64 0, .slice none 0 0, .slice none 0 0, .int .u64 0, .string ⟨#[]⟩, .slice none 0 0] t nums st v3 v4 (.slice none 0 0) a b 0 w4) := by
    have f34 := fresh_trans f3 f4
    refine ⟨HB0.out.fresh f34, HZ0.out.fresh f34, ?_, ?_, own_nil _ _ _ _ _, fresh_trans HF0.out f34⟩
    · refine ((o3.kept f4).weaken HF0.out.size).congr (fun j hj => ?_)
      rw [mkBt t (by rw [← EA.out]; omega)]; rfl
    · refine (o4.weaken HF3.out.size).congr (fun j hj => ?_)
      rw [mkI_lt (by rw [← EB.out]; omega)]
  clear HC' o3 o4 f3 f4 HF3 x3 HB0 HZ0 HF0 HCB HCI
  go_wp2
  go_loopw [5, 6] (fun v i wr => ∃ k : Nat, k ≤ c ∧ i = .int .i64 k ∧ Hid (Gv w (lnA wd n ao a ac bo b bc sd gd co c cc) #[.string ⟨#[]⟩, .int .i64 0, .slice none 0 0, .slice none 0 0, .int .u64 0, .string ⟨#[]⟩, .slice none 0 0] t nums st v3 v4 v a b k wr)) (fun _ i _ => c - (intOf i).toNat)
  case atStart => exact ⟨0, by omega, rfl, HG.out⟩
  case round =>
    clear HG
    obtain ⟨k, hk, rfl, hG⟩ := hrel
    have y6 := hG.out.bx.cell 6
    simp at y6
    by_cases hlt : k < c
    · obtain ⟨b1, o1, rfl, h1⟩ := (HS.out.fresh hG.out.low).one (by omega)
      have c1 := h1 k hlt
      rw [← mkS_lt (by rw [← EC.out]; exact hlt)] at c1
      have j1 : (k : Int) < c := by omega
      obtain ⟨sk, hsk⟩ : ∃ sk, mkS st k = .string sk := by unfold mkS; split <;> exact ⟨_, rfl⟩
      rw [hsk] at c1
      have HMK := hidd hsk
      clear h1 hsk
      have HO := hidd (hG.out.o5.kept (fresh_alloc wr (.cells #[.string sk] 9)))
      go_wp2_with (at_builtin; refine wpList_app1 _ rfl _ _ 33 rfl _ 9 (.string ⟨#[]⟩) 16 Tryd.underlying33 infoT rfl _ k _ rfl HO.out _ 1 rfl (by rw [HMK.out]; exact new_cell _ _ _) (by rw [HMK.out]; rfl) (by omega) (by omega) (by have := hG.out.size; simp; omega) ?_)
      intro v' w6 hown' happ
      have HG6 := hidd ((hG.out.fresh (fresh_alloc wr (.cells #[.string sk] 9))).app5 hown' happ)
      clear happ hown' HO c1 y6
      go_wp2
      go_roundw
      case rel => exact ⟨k + 1, by omega, by go_num, HG6.out⟩
      case measure => simp [intOf]; omega
    · obtain rfl : k = c := by omega
      have HM3 : Hid (∀ j, mkB t (a + j) = .int .u8 77) := fun j => by rw [EA.out]; exact mkBg t j
      have HM4 : Hid (∀ j, mkI nums (b + j) = .int .i64 77) := fun j => by rw [EB.out]; exact mkI_ge nums j
      have HM5 : Hid (∀ j, mkS st (k + j) = .string ⟨#[109, 97, 114, 107]⟩) := fun j => by rw [EC.out]; exact mkS_ge st j
      go_wp2
      clear y6
      go_loopw [3, 4, 5, 7] (fun v3 v4 v5 i wr => ∃ j : Nat, j ≤ 64 ∧ i = .int .i64 j ∧ Hid (Gv w (lnA wd n ao a ac bo b bc sd gd co k cc) #[.string ⟨#[]⟩, .int .i64 0, .slice none 0 0, .slice none 0 0, .int .u64 0, .string ⟨#[]⟩, .slice none 0 0] t nums st v3 v4 v5 (a + j) (b + j) (k + j) wr)) (fun _ _ _ i _ => 64 - (intOf i).toNat)
      case atStart => exact ⟨0, by omega, rfl, hG.out⟩
      case round =>
        clear hG
        obtain ⟨j, hj, rfl, hG⟩ := hrel
        by_cases hlt2 : j < 64
        · have j1 : (j : Int) < 64 := by omega
          have hs0 := hG.out.size
          have HO := hidd (hG.out.o3.kept (fresh_alloc wr (.cells #[.int .u8 77] 5)))
          go_upto_region 12 with (at_builtin; refine wpList_app1 _ rfl _ _ 22 rfl _ 5 (.int .u8 0) 1 Tryd.underlying22 infoB rfl _ (a + j) _ rfl HO.out _ 1 rfl (by rw [HM3.out]; exact new_cell _ _ _) (by rw [HM3.out]; rfl) (by omega) (by omega) (by simp; omega) ?_; intro v6 w6 o6 p6)
          have HG6 := hidd ((hG.out.fresh (fresh_alloc wr (.cells #[.int .u8 77] 5))).app3 o6 p6)
          clear o6 p6 HO hG
          have hs6 := HG6.out.size
          have HO := hidd (HG6.out.o4.kept (fresh_alloc w6 (.cells #[.int .i64 77] 3)))
          go_upto_region 13 with (at_builtin; refine wpList_app1 _ rfl _ _ 31 rfl _ 3 (.int .i64 0) 8 Tryd.underlying31 infoI rfl _ (b + j) _ rfl HO.out _ 1 rfl (by rw [HM4.out]; exact new_cell _ _ _) (by rw [HM4.out]; rfl) (by omega) (by omega) (by simp; omega) ?_; intro v7 w7 o7 p7)
          have HG7 := hidd ((HG6.out.fresh (fresh_alloc w6 (.cells #[.int .i64 77] 3))).app4 o7 p7)
          clear o7 p7 HO HG6
          have hs7 := HG7.out.size
          have HO := hidd (HG7.out.o5.kept (fresh_alloc w7 (.cells #[.string ⟨#[109, 97, 114, 107]⟩] 9)))
          go_wp2_with (at_builtin; refine wpList_app1 _ rfl _ _ 33 rfl _ 9 (.string ⟨#[]⟩) 16 Tryd.underlying33 infoT rfl _ (k + j) _ rfl HO.out _ 1 rfl (by rw [HM5.out]; exact new_cell _ _ _) (by rw [HM5.out]; rfl) (by omega) (by omega) (by simp; omega) ?_; intro v8 w8 o8 p8)
          have HG8 := hidd ((HG7.out.fresh (fresh_alloc w7 (.cells #[.string ⟨#[109, 97, 114, 107]⟩] 9))).app5 o8 p8)
          clear o8 p8 HO HG7
          go_roundw
          case rel => exact ⟨j + 1, by omega, by go_num, HG8.out⟩
          case measure => simp [intOf]; omega
        · obtain rfl : j = 64 := by omega
          obtain ⟨g1, c1, rfl, l1, m1, b1⟩ := own_slice hG.out.o3 (by omega)
          obtain ⟨g2, c2, rfl, l2, m2, b2⟩ := own_slice hG.out.o4 (by omega)
          obtain ⟨g3, c3, rfl, l3, m3, b3⟩ := own_slice hG.out.o5 (by omega)
          unfold maxLen at m1 m2 m3
          have x0 := hG.out.bx.cell 0
          have x1 := hG.out.bx.cell 1
          have x2 := hG.out.bx.cell 2
          have x3 := hG.out.bx.cell 3
          have x4 := hG.out.bx.cell 4
          have x5 := hG.out.bx.cell 5
          have x6 := hG.out.bx.cell 6
          simp at x0 x1 x2 x3 x4 x5 x6
          have z0 := hG.out.lz.cell 0
          have z1 := hG.out.lz.cell 1
          have z2 := hG.out.lz.cell 2
          have z3 := hG.out.lz.cell 3
          have z4 := hG.out.lz.cell 4
          have z5 := hG.out.lz.cell 5
          have z6 := hG.out.lz.cell 6
          have zf0 := hG.out.lz.frozen 0
          have zf1 := hG.out.lz.frozen 1
          have zf2 := hG.out.lz.frozen 2
          have zf3 := hG.out.lz.frozen 3
          have zf4 := hG.out.lz.frozen 4
          have zf5 := hG.out.lz.frozen 5
          have zf6 := hG.out.lz.frozen 6
          simp at z0 z1 z2 z3 z4 z5 z6
          have q1 : (a : Int) ≤ (c1 : Int) := by omega
          have q2 : (b : Int) ≤ (c2 : Int) := by omega
          have q3 : (k : Int) ≤ (c3 : Int) := by omega
          have HFIN : Hid (Blk (((((((wr.setCell ⟨w.heap.size + 1, 0, none⟩ (.string wd)).setCell ⟨w.heap.size + 1, 1, none⟩ (.int .i64 n)).setCell ⟨w.heap.size + 1, 2, none⟩ (.slice (some ⟨g1, 0, none⟩) a c1)).setCell ⟨w.heap.size + 1, 3, none⟩ (.slice (some ⟨g2, 0, none⟩) b c2)).setCell ⟨w.heap.size + 1, 4, none⟩ (.int .u64 sd)).setCell ⟨w.heap.size + 1, 5, none⟩ (.string gd)).setCell ⟨w.heap.size + 1, 6, none⟩ (.slice (some ⟨g3, 0, none⟩) k c3)).drew (w.heap.size + 1) 38 #[.string wd, .int .i64 n, .slice (some ⟨g1, 0, none⟩) a c1, .slice (some ⟨g2, 0, none⟩) b c2, .int .u64 sd, .string gd, .slice (some ⟨g3, 0, none⟩) k c3] ∧ Own (((((((wr.setCell ⟨w.heap.size + 1, 0, none⟩ (.string wd)).setCell ⟨w.heap.size + 1, 1, none⟩ (.int .i64 n)).setCell ⟨w.heap.size + 1, 2, none⟩ (.slice (some ⟨g1, 0, none⟩) a c1)).setCell ⟨w.heap.size + 1, 3, none⟩ (.slice (some ⟨g2, 0, none⟩) b c2)).setCell ⟨w.heap.size + 1, 4, none⟩ (.int .u64 sd)).setCell ⟨w.heap.size + 1, 5, none⟩ (.string gd)).setCell ⟨w.heap.size + 1, 6, none⟩ (.slice (some ⟨g3, 0, none⟩) k c3)).drew w.heap.size 5 1 (.slice (some ⟨g1, 0, none⟩) (a + 64) c1) (a + 64) (mkB t) ∧ Own (((((((wr.setCell ⟨w.heap.size + 1, 0, none⟩ (.string wd)).setCell ⟨w.heap.size + 1, 1, none⟩ (.int .i64 n)).setCell ⟨w.heap.size + 1, 2, none⟩ (.slice (some ⟨g1, 0, none⟩) a c1)).setCell ⟨w.heap.size + 1, 3, none⟩ (.slice (some ⟨g2, 0, none⟩) b c2)).setCell ⟨w.heap.size + 1, 4, none⟩ (.int .u64 sd)).setCell ⟨w.heap.size + 1, 5, none⟩ (.string gd)).setCell ⟨w.heap.size + 1, 6, none⟩ (.slice (some ⟨g3, 0, none⟩) k c3)).drew w.heap.size 3 1 (.slice (some ⟨g2, 0, none⟩) (b + 64) c2) (b + 64) (mkI nums) ∧ Own (((((((wr.setCell ⟨w.heap.size + 1, 0, none⟩ (.string wd)).setCell ⟨w.heap.size + 1, 1, none⟩ (.int .i64 n)).setCell ⟨w.heap.size + 1, 2, none⟩ (.slice (some ⟨g1, 0, none⟩) a c1)).setCell ⟨w.heap.size + 1, 3, none⟩ (.slice (some ⟨g2, 0, none⟩) b c2)).setCell ⟨w.heap.size + 1, 4, none⟩ (.int .u64 sd)).setCell ⟨w.heap.size + 1, 5, none⟩ (.string gd)).setCell ⟨w.heap.size + 1, 6, none⟩ (.slice (some ⟨g3, 0, none⟩) k c3)).drew w.heap.size 9 1 (.slice (some ⟨g3, 0, none⟩) (k + 64) c3) (k + 64) (mkS st) ∧ Below w.heap.size w (((((((wr.setCell ⟨w.heap.size + 1, 0, none⟩ (.string wd)).setCell ⟨w.heap.size + 1, 1, none⟩ (.int .i64 n)).setCell ⟨w.heap.size + 1, 2, none⟩ (.slice (some ⟨g1, 0, none⟩) a c1)).setCell ⟨w.heap.size + 1, 3, none⟩ (.slice (some ⟨g2, 0, none⟩) b c2)).setCell ⟨w.heap.size + 1, 4, none⟩ (.int .u64 sd)).setCell ⟨w.heap.size + 1, 5, none⟩ (.string gd)).setCell ⟨w.heap.size + 1, 6, none⟩ (.slice (some ⟨g3, 0, none⟩) k c3)).drew) := by
            have c7 := chg_set7 wr (w.heap.size + 1) (.string wd) (.int .i64 n) (.slice (some ⟨g1, 0, none⟩) a c1) (.slice (some ⟨g2, 0, none⟩) b c2) (.int .u64 sd) (.string gd) (.slice (some ⟨g3, 0, none⟩) k c3)
            have fd : Below (((((((wr.setCell ⟨w.heap.size + 1, 0, none⟩ (.string wd)).setCell ⟨w.heap.size + 1, 1, none⟩ (.int .i64 n)).setCell ⟨w.heap.size + 1, 2, none⟩ (.slice (some ⟨g1, 0, none⟩) a c1)).setCell ⟨w.heap.size + 1, 3, none⟩ (.slice (some ⟨g2, 0, none⟩) b c2)).setCell ⟨w.heap.size + 1, 4, none⟩ (.int .u64 sd)).setCell ⟨w.heap.size + 1, 5, none⟩ (.string gd)).setCell ⟨w.heap.size + 1, 6, none⟩ (.slice (some ⟨g3, 0, none⟩) k c3)).heap.size (((((((wr.setCell ⟨w.heap.size + 1, 0, none⟩ (.string wd)).setCell ⟨w.heap.size + 1, 1, none⟩ (.int .i64 n)).setCell ⟨w.heap.size + 1, 2, none⟩ (.slice (some ⟨g1, 0, none⟩) a c1)).setCell ⟨w.heap.size + 1, 3, none⟩ (.slice (some ⟨g2, 0, none⟩) b c2)).setCell ⟨w.heap.size + 1, 4, none⟩ (.int .u64 sd)).setCell ⟨w.heap.size + 1, 5, none⟩ (.string gd)).setCell ⟨w.heap.size + 1, 6, none⟩ (.slice (some ⟨g3, 0, none⟩) k c3)) (((((((wr.setCell ⟨w.heap.size + 1, 0, none⟩ (.string wd)).setCell ⟨w.heap.size + 1, 1, none⟩ (.int .i64 n)).setCell ⟨w.heap.size + 1, 2, none⟩ (.slice (some ⟨g1, 0, none⟩) a c1)).setCell ⟨w.heap.size + 1, 3, none⟩ (.slice (some ⟨g2, 0, none⟩) b c2)).setCell ⟨w.heap.size + 1, 4, none⟩ (.int .u64 sd)).setCell ⟨w.heap.size + 1, 5, none⟩ (.string gd)).setCell ⟨w.heap.size + 1, 6, none⟩ (.slice (some ⟨g3, 0, none⟩) k c3)).drew := (Below.refl _ _).drew
            refine ⟨(((((((hG.out.lz.put 0 _).put 1 _).put 2 _).put 3 _).put 4 _).put 5 _).put 6 _).fresh fd, (hG.out.o3.chg c7 ?_).kept fd, (hG.out.o4.chg c7 ?_).kept fd, (hG.out.o5.chg c7 ?_).kept fd, fresh_trans (c7.below hG.out.low hG.out.low.size (fun x hx => by omega)) fd⟩
            · exact fun x hx e => by subst e; exact hG.out.o3.off_blk hG.out.lz (by decide) hx
            · exact fun x hx e => by subst e; exact hG.out.o4.off_blk hG.out.lz (by decide) hx
            · exact fun x hx e => by subst e; exact hG.out.o5.off_blk hG.out.lz (by decide) hx
          have SL7 : Hid ((Tryd.prog.info? 38).map (·.size) = some (#[.string wd, .int .i64 n, .slice (some ⟨g1, 0, none⟩) a c1, .slice (some ⟨g2, 0, none⟩) b c2, .int .u64 sd, .string gd, .slice (some ⟨g3, 0, none⟩) k c3] : Array Value).size) := sizeLn7
          go_upto_region 14 with fail
          go_region
          generalize (((((((wr.setCell ⟨w.heap.size + 1, 0, none⟩ (.string wd)).setCell ⟨w.heap.size + 1, 1, none⟩ (.int .i64 n)).setCell ⟨w.heap.size + 1, 2, none⟩ (.slice (some ⟨g1, 0, none⟩) a c1)).setCell ⟨w.heap.size + 1, 3, none⟩ (.slice (some ⟨g2, 0, none⟩) b c2)).setCell ⟨w.heap.size + 1, 4, none⟩ (.int .u64 sd)).setCell ⟨w.heap.size + 1, 5, none⟩ (.string gd)).setCell ⟨w.heap.size + 1, 6, none⟩ (.slice (some ⟨g3, 0, none⟩) k c3)).drew = w9 at *
          go_wp2
          refine bodyPost_ret (results_cell_row Tryd.results15 _ _ (w.heap.size + 1) 38 _ (0, 0) _ rfl HFIN.out.1 Tryd.underlying38 rfl SL7.out) rfl ?_
          exact ⟨g1, c1, g2, c2, g3, c3, rfl, HFIN.out.2⟩
end Go.Proofs.YtemmghneohnigaaDoor
