import Derived.BigQuiet
import Derived.Test.YtilghknalbhacaaJAP
namespace Go.Proofs.Ytilghknalbhacaa
open Go.RowKit
set_option maxRecDepth 20000 in
set_option maxHeartbeats 4000000 in
theorem layer_any {w : World} {r bb : Nat} {B : List Int} {p : Nat} {bad : Bool} (h : Rdr w r bb B p bad) (hbb : bb < w.heap.size) (V H K L D N M kv : Int) (nW a b c : Nat) (hH : 1 ≤ H) (hH4 : H ≤ 4) (hW : 2 ≤ (nW : Int)) (hW2 : (nW : Int) ≤ 32) (hkv : K * ((nW : Int) / H) = kv) (kv0 : 0 ≤ kv) (kv1 : kv ≤ 128) (pa : (nW : Int) * (nW : Int) = (a : Int)) (pb : kv * (nW : Int) = (b : Int)) (pc : D * (nW : Int) = (c : Int)) (pd : (nW : Int) * D = (c : Int)) (a0' : 0 < a) (b0 : 0 < b) (c0 : 0 < c) (ba : a ≤ 1048576) (bb1 : b ≤ 1048576) (bc : c ≤ 1048576) :
    Calls Try.prog 70 #[.pointer (some ⟨r, 0, none⟩), .agg #[.int .i64 V, .int .i64 (nW : Int), .int .i64 H, .int .i64 K, .int .i64 L, .int .i64 D, .int .i64 N, .int .i64 M]] w fun e w' => ∃ l, e = .returned (.agg (lyA l)) ∧ LyQ w w' r bb B p bad nW a b c kv D l := by
  have hrl := h.lt
  have HBY := hidd h.byt
  have hf0 := fresh_trans (fresh_alloc w (.cells #[.int .i64 V, .int .i64 (nW : Int), .int .i64 H, .int .i64 K, .int .i64 L, .int .i64 D, .int .i64 N, .int .i64 M] 23)) (fresh_alloc _ (.cells #[.slice none 0 0, .slice none 0 0, .int .i64 0, .int .i64 0, .slice none 0 0, .int .i64 0, .int .i64 0, .slice none 0 0, .int .i64 0, .int .i64 0, .slice none 0 0, .int .i64 0, .int .i64 0, .slice none 0 0, .int .i64 0, .int .i64 0, .slice none 0 0, .int .i64 0, .int .i64 0, .slice none 0 0, .int .i64 0, .int .i64 0, .slice none 0 0, .int .i64 0, .int .i64 0, .int .i64 0, .int .i64 0, .int .i64 0, .int .i64 0, .int .i64 0] 67))
  have HBX := hidd (cfg_row w V H K L D N M nW (.cells #[.slice none 0 0, .slice none 0 0, .int .i64 0, .int .i64 0, .slice none 0 0, .int .i64 0, .int .i64 0, .slice none 0 0, .int .i64 0, .int .i64 0, .slice none 0 0, .int .i64 0, .int .i64 0, .slice none 0 0, .int .i64 0, .int .i64 0, .slice none 0 0, .int .i64 0, .int .i64 0, .slice none 0 0, .int .i64 0, .int .i64 0, .slice none 0 0, .int .i64 0, .int .i64 0, .int .i64 0, .int .i64 0, .int .i64 0, .int .i64 0, .int .i64 0] 67))
  have HRS := hidd (res_row w (.cells #[.int .i64 V, .int .i64 (nW : Int), .int .i64 H, .int .i64 K, .int .i64 L, .int .i64 D, .int .i64 N, .int .i64 M] 23))
  have HR0 := hidd (h.fresh hf0)
  have HSZ0 : Hid (((w.alloc (.cells #[.int .i64 V, .int .i64 (nW : Int), .int .i64 H, .int .i64 K, .int .i64 L, .int .i64 D, .int .i64 N, .int .i64 M] 23)).alloc (.cells #[.slice none 0 0, .slice none 0 0, .int .i64 0, .int .i64 0, .slice none 0 0, .int .i64 0, .int .i64 0, .slice none 0 0, .int .i64 0, .int .i64 0, .slice none 0 0, .int .i64 0, .int .i64 0, .slice none 0 0, .int .i64 0, .int .i64 0, .slice none 0 0, .int .i64 0, .int .i64 0, .slice none 0 0, .int .i64 0, .int .i64 0, .slice none 0 0, .int .i64 0, .int .i64 0, .int .i64 0, .int .i64 0, .int .i64 0, .int .i64 0, .int .i64 0] 67)).heap.size = w.heap.size + 2) := by simp [Hid]
  have HF0 := hidd hf0
  obtain ⟨S, hS⟩ : ∃ S : Nat, szN (nW : Int) a b c 7 = (S : Int) := ⟨_, (Int.toNat_of_nonneg (szN_bd hW hW2 ba bb1 bc 7).1).symm⟩
  have hSb : S ≤ 8000000 := by have := (szN_bd hW hW2 ba bb1 bc 7).2; omega
  clear h hf0
  go_enter Try.func70, Try.ntmps70
  go_upto_region 1 with fail
  generalize ((w.alloc (.cells #[.int .i64 V, .int .i64 (nW : Int), .int .i64 H, .int .i64 K, .int .i64 L, .int .i64 D, .int .i64 N, .int .i64 M] 23)).alloc (.cells #[.slice none 0 0, .slice none 0 0, .int .i64 0, .int .i64 0, .slice none 0 0, .int .i64 0, .int .i64 0, .slice none 0 0, .int .i64 0, .int .i64 0, .slice none 0 0, .int .i64 0, .int .i64 0, .slice none 0 0, .int .i64 0, .int .i64 0, .slice none 0 0, .int .i64 0, .int .i64 0, .slice none 0 0, .int .i64 0, .int .i64 0, .slice none 0 0, .int .i64 0, .int .i64 0, .int .i64 0, .int .i64 0, .int .i64 0, .int .i64 0, .int .i64 0] 67)) = w3 at *
  have fl := fresh_alloc w3 (.cells #[.slice none 0 0, .slice none 0 0, .int .i64 0, .int .i64 0, .slice none 0 0, .int .i64 0, .int .i64 0, .slice none 0 0, .int .i64 0, .int .i64 0, .slice none 0 0, .int .i64 0, .int .i64 0, .slice none 0 0, .int .i64 0, .int .i64 0, .slice none 0 0, .int .i64 0, .int .i64 0, .slice none 0 0, .int .i64 0, .int .i64 0, .slice none 0 0, .int .i64 0, .int .i64 0, .int .i64 0, .int .i64 0, .int .i64 0, .int .i64 0, .int .i64 0] 67)
  have HL0 := hidd (lw_start hrl HF0.out HBX.out HRS.out (Chg.refl w3 (fun b => b = r)) (by have := HSZ0.out; omega))
  have HR1 := hidd (HR0.out.fresh fl)
  have HZH := hidd (heap_new w3 (.cells #[.slice none 0 0, .slice none 0 0, .int .i64 0, .int .i64 0, .slice none 0 0, .int .i64 0, .int .i64 0, .slice none 0 0, .int .i64 0, .int .i64 0, .slice none 0 0, .int .i64 0, .int .i64 0, .slice none 0 0, .int .i64 0, .int .i64 0, .slice none 0 0, .int .i64 0, .int .i64 0, .slice none 0 0, .int .i64 0, .int .i64 0, .slice none 0 0, .int .i64 0, .int .i64 0, .int .i64 0, .int .i64 0, .int .i64 0, .int .i64 0, .int .i64 0] 67))
  have HON : Hid ((#[.slice none 0 0, .slice none 0 0, .int .i64 0, .int .i64 0, .slice none 0 0, .int .i64 0, .int .i64 0, .slice none 0 0, .int .i64 0, .int .i64 0, .slice none 0 0, .int .i64 0, .int .i64 0, .slice none 0 0, .int .i64 0, .int .i64 0, .slice none 0 0, .int .i64 0, .int .i64 0, .slice none 0 0, .int .i64 0, .int .i64 0, .slice none 0 0, .int .i64 0, .int .i64 0, .int .i64 0, .int .i64 0, .int .i64 0, .int .i64 0, .int .i64 0] : Array Value).all (·.oneCell') = true) := lyA_one lyO0
  go_upto_region 2 with (first | refine wpList_store_row rfl 67 _ _ rfl w3.heap.size #[.slice none 0 0, .slice none 0 0, .int .i64 0, .int .i64 0, .slice none 0 0, .int .i64 0, .int .i64 0, .slice none 0 0, .int .i64 0, .int .i64 0, .slice none 0 0, .int .i64 0, .int .i64 0, .slice none 0 0, .int .i64 0, .int .i64 0, .slice none 0 0, .int .i64 0, .int .i64 0, .slice none 0 0, .int .i64 0, .int .i64 0, .slice none 0 0, .int .i64 0, .int .i64 0, .int .i64 0, .int .i64 0, .int .i64 0, .int .i64 0, .int .i64 0] rfl rfl 67 _ HZH.out sizeL rfl HON.out ?_ | fail)
  rw [World.setRow_alloc_new]
  simp only [Act.put]
  clear HZH HON HR0 HBX HRS HF0 HSZ0 fl
  generalize (w3.alloc (.cells #[.slice none 0 0, .slice none 0 0, .int .i64 0, .int .i64 0, .slice none 0 0, .int .i64 0, .int .i64 0, .slice none 0 0, .int .i64 0, .int .i64 0, .slice none 0 0, .int .i64 0, .int .i64 0, .slice none 0 0, .int .i64 0, .int .i64 0, .slice none 0 0, .int .i64 0, .int .i64 0, .slice none 0 0, .int .i64 0, .int .i64 0, .slice none 0 0, .int .i64 0, .int .i64 0, .int .i64 0, .int .i64 0, .int .i64 0, .int .i64 0, .int .i64 0] 67)) = w4 at *
  generalize w3.heap.size = gl at *
  -- the header
  have d0 : w4.cell? ⟨w.heap.size, 0, none⟩ = some (.int .i64 V) := HL0.out.box.cell (i := 0) (by decide)
  have d1 : w4.cell? ⟨w.heap.size, 1, none⟩ = some (.int .i64 (nW : Int)) := HL0.out.box.cell (i := 1) (by decide)
  have d2 : w4.cell? ⟨w.heap.size, 2, none⟩ = some (.int .i64 H) := HL0.out.box.cell (i := 2) (by decide)
  have d3 : w4.cell? ⟨w.heap.size, 3, none⟩ = some (.int .i64 K) := HL0.out.box.cell (i := 3) (by decide)
  have d4 : w4.cell? ⟨w.heap.size, 4, none⟩ = some (.int .i64 L) := HL0.out.box.cell (i := 4) (by decide)
  have d5 : w4.cell? ⟨w.heap.size, 5, none⟩ = some (.int .i64 D) := HL0.out.box.cell (i := 5) (by decide)
  have d6 : w4.cell? ⟨w.heap.size, 6, none⟩ = some (.int .i64 N) := HL0.out.box.cell (i := 6) (by decide)
  have d7 : w4.cell? ⟨w.heap.size, 7, none⟩ = some (.int .i64 M) := HL0.out.box.cell (i := 7) (by decide)
  have HLS := hidd (lysz_any w4 V nW H K L D N M kv hH hH4 hW hW2 hkv kv0 kv1 pa pb pc pd ba bb1 bc)
  rw [hS] at HLS
  have HHD : Hid (∀ z : World, Calls Try.prog 61 #[.int .u8 76, .int .i64 (S : Int)] z fun e w' => ∃ v', e = .returned v' ∧ OwB w' z.heap.size v' (76 :: num S 4) ∧ Below z.heap.size z w') := fun z => header_any z (by omega)
  go_upto_region 3 with (first
    | (go_at_call 94; refine HLS.out.mono ?_; rintro e w5 ⟨rfl, f5⟩; have F5 := hidd f5; clear f5)
    | (go_at_call 61; refine (HHD.out _).mono ?_; rintro e w6 ⟨v6, rfl, hv6, f6⟩; have HM := hidd (meethdr (HR1.out.fresh F5.out) f6 (by decide) hv6); have F6 := hidd f6; clear hv6 f6)
    | (go_at_call 35; refine HM.out.mono ?_; rintro e w7 ⟨rfl, hp7⟩))
  have HL7 := hidd ((HL0.out.fresh hrl F5.out).call hrl hp7.chg)
  obtain ⟨p7, bad7, hs7, hr7⟩ := hp7.ex
  have HS7 := hidd hs7
  have HR7 := hidd hr7
  clear hs7 hr7 hp7 HM F6 F5 HHD HLS HL0 HR1 d0 d1 d2 d3 d4 d5 d6 d7
  have d1 : w7.cell? ⟨w.heap.size, 1, none⟩ = some (.int .i64 (nW : Int)) := HL7.out.box.cell (i := 1) (by decide)
  have HN1 : Hid (∀ z, Below w7.heap.size w7 z → Calls Try.prog 71 #[.pointer (some ⟨r, 0, none⟩), .int .i64 (nW : Int)] z fun e w' => ∃ g, e = .returned (.slice (some ⟨g, 0, none⟩) nW nW) ∧ PlP w w7 w' r gl [V, (nW : Int), H, K, L, D, N, M] lyO0 bb B p7 bad7 g nW) := fun z hz => (pl_narrow (HL7.out.fresh hrl hz) hrl hbb (HR7.out.fresh hz) (by omega) (by omega)).mono (fun _ _ ⟨g, e, k⟩ => ⟨g, e, k.pre hz⟩)
  clear HL7 HR7
  go_region_with (first
    | (go_at_call 71; refine (HN2.out _ (by first | exact Below.refl _ _ | exact (Below.refl _ _).drew)).mono ?_; rintro e x1 ⟨g1, rfl, hP1⟩; have HP1 := hidd hP1; obtain ⟨s0, hs0⟩ : ∃ x, x1.cell? ⟨gl, 0, none⟩ = some x := ⟨_, hP1.lw.loc.cell (i := 0) (by decide)⟩; obtain ⟨s1, hs1⟩ : ∃ x, x1.cell? ⟨gl, 1, none⟩ = some x := ⟨_, hP1.lw.loc.cell (i := 1) (by decide)⟩; have fz := hP1.lw.loc.frozen; have e1 : x1.cell? ⟨w.heap.size, 1, none⟩ = some (.int .i64 (nW : Int)) := hP1.lw.box.cell (i := 1) (by decide); clear hP1)
    | (go_at_call 71; refine (HN1.out _ (by first | exact Below.refl _ _ | exact (Below.refl _ _).drew)).mono ?_; rintro e x0 ⟨g0, rfl, hP0⟩; have HP0 := hidd hP0; obtain ⟨f0, ho0, hb0, q0, bd0, hS0, hR0⟩ := hP0.ex; have HN2 : Hid (∀ z, Below x0.heap.size x0 z → Calls Try.prog 71 #[.pointer (some ⟨r, 0, none⟩), .int .i64 (nW : Int)] z fun e w' => ∃ g, e = .returned (.slice (some ⟨g, 0, none⟩) nW nW) ∧ PlP w x0 w' r gl [V, (nW : Int), H, K, L, D, N, M] lyO0 bb B q0 bd0 g nW) := fun z hz => (pl_narrow (hP0.lw.fresh hrl hz) hrl hbb (hR0.fresh hz) (by omega) (by omega)).mono (fun _ _ ⟨g, e, k⟩ => ⟨g, e, k.pre hz⟩); have HS0 := hidd hS0; have HB0 := hidd hb0; have HO0b := hidd hb0; have HO0 := hidd ho0; have c1 : x0.cell? ⟨w.heap.size, 1, none⟩ = some (.int .i64 (nW : Int)) := hP0.lw.box.cell (i := 1) (by decide); clear hP0 ho0 hb0 hS0 hR0))
  all_goals
    obtain ⟨f1, ho1, hb1, q1, bd1, hS1, hR1⟩ := HP1.out.ex
    have ho0' := HO0.out.chg HP1.out.chg (fun b e hb => by have := (HO0.out.lt b e).1; have := HP1.out.lw.hg; omega)
    have G1 := hidd ((HP1.out.lw.n1 ⟨some ⟨g0, 0, none⟩, nW, nW, f0⟩ ho0').n2 ⟨some ⟨g1, 0, none⟩, nW, nW, f1⟩ (HP1.out.lw.keep (Chg.of_set _ _ _ _) ho1))
    have R1 := hidd (hR1.put HP1.out.lw hrl hbb ((Chg.of_set x1 gl 0 (.slice (some ⟨g0, 0, none⟩) nW nW)).trans (Chg.of_set _ gl 1 (.slice (some ⟨g1, 0, none⟩) nW nW)) (fun _ _ e => e)))
    have S1 := hidd (HS0.out.more hS1)
    have B1 := hidd hb1
    clear HP1 HP0 HN1 HN2 HS0 HO0 ho0' ho1 hb1 hS1 hR1 hs0 hs1 fz e1 c1 d1
    generalize (x1.setCell ⟨gl, 0, none⟩ (.slice (some ⟨g0, 0, none⟩) nW nW)).setCell ⟨gl, 1, none⟩ (.slice (some ⟨g1, 0, none⟩) nW nW) = y1 at *
    have HSH := hidd (shapes_any y1)
    have HMO : Hid (∀ z : World, Calls Try.prog 63 #[.pointer (some ⟨gl, 0, none⟩)] z fun e w' => e = .returned (.agg (pm7 gl 0)) ∧ Below z.heap.size z w') := fun z => matsOf_any z gl 0
    go_upto_region 5 with (first
      | (go_at_call 84; refine HSH.out.mono ?_; rintro e y2 ⟨rfl, h2⟩; have H2 := hidd h2; clear h2)
      | (refine wpList_store_row rfl 118 _ _ rfl y2.heap.size tab8 rfl rfl 118 _ (heap_new _ _) size8 rfl (by kernel_rfl) ?_))
    rw [World.setRow_alloc_new]
    simp only [Act.put]
    have HT3 := hidd (heap_new y2 (.cells tab8 118))
    have hf := fresh_trans H2.out (fresh_alloc y2 (.cells tab8 118))
    have G3 := hidd (G1.out.fresh hrl hf)
    have R3 := hidd (R1.out.fresh hf)
    have HG2 : Hid (gl < y2.heap.size ∧ r < y2.heap.size) := by
      have := G1.out.size
      have := H2.out.size
      have := G1.out.hg
      exact ⟨by omega, by omega⟩
    clear HSH H2 hf G1 R1
    generalize y2.alloc (.cells tab8 118) = y3 at *
    have TA := hidd (tab8_at HT3.out)
    clear HT3
    generalize y2.heap.size = g2 at *
    generalize tab8 = t8 at *
    go_wp2_with (go_at_call 63; refine (HMO.out _).mono ?_; rintro e y4 ⟨rfl, f4⟩; have F4 := hidd f4; clear f4)
    have G4 := hidd (G3.out.fresh hrl F4.out)
    have R4 := hidd (R3.out.fresh F4.out)
    have HIX : Hid (∀ k : Nat, k < 7 → ∀ z : World, (Instr.index 104 (.agg (pm7 gl 0)) (.int .i64 (k : Int))).run Try.prog z = .ok (.pointer (some ⟨gl, 2 + 3 * k, none⟩)) z) := fun k hk z => by have := pm7_at gl 0 k hk z; rwa [Nat.zero_add] at this
    generalize pm7 gl 0 = pm at *
    have HL0 : Hid (LpS w y4 r gl bb g2 [V, (nW : Int), H, K, L, D, N, M] B p7 bad7 nW a b c kv D 0) := lps_start G4.out R4.out S1.out ⟨rfl, rfl⟩ ⟨rfl, rfl⟩ HO0b.out B1.out (fun j hj => ⟨fresh_cell F4.out (TA.out j hj).1, fresh_cell F4.out (TA.out j hj).2⟩)
    clear G3 R3 G4 R4 S1 B1 HB0 TA F4 HMO
    go_wp2
    go_loopw [7, 8, 29] (fun _ _ iv wr => ∃ n : Nat, n ≤ 7 ∧ iv = .int .i64 n ∧ Hid (LpS w wr r gl bb g2 [V, (nW : Int), H, K, L, D, N, M] B p7 bad7 nW a b c kv D n)) (fun _ _ iv _ => 7 - (intOf iv).toNat)
    case atStart => exact ⟨0, by omega, by simp, HL0⟩
    case round =>
      clear HL0
      obtain ⟨n, hn, rfl, HP⟩ := hrel
      obtain ⟨⟨l, q, bd, hG, hR, hS, hK⟩, htab⟩ := HP.out
      clear HP
      have HG := hidd hG
      have HR := hidd hR
      have HSn := hidd hS
      have HK := hidd hK
      have HTB := hidd htab
      by_cases hlt : n < 7
      · have i1 : (n : Int) < 7 := by omega
        have i0 : (0 : Int) ≤ (n : Int) := by omega
        have hix := HIX.out n hlt
        have d0 : wr.cell? ⟨w.heap.size, 0, none⟩ = some (.int .i64 V) := HG.out.box.cell (i := 0) (by decide)
        have d1 : wr.cell? ⟨w.heap.size, 1, none⟩ = some (.int .i64 (nW : Int)) := HG.out.box.cell (i := 1) (by decide)
        have d2 : wr.cell? ⟨w.heap.size, 2, none⟩ = some (.int .i64 H) := HG.out.box.cell (i := 2) (by decide)
        have d3 : wr.cell? ⟨w.heap.size, 3, none⟩ = some (.int .i64 K) := HG.out.box.cell (i := 3) (by decide)
        have d4 : wr.cell? ⟨w.heap.size, 4, none⟩ = some (.int .i64 L) := HG.out.box.cell (i := 4) (by decide)
        have d5 : wr.cell? ⟨w.heap.size, 5, none⟩ = some (.int .i64 D) := HG.out.box.cell (i := 5) (by decide)
        have d6 : wr.cell? ⟨w.heap.size, 6, none⟩ = some (.int .i64 N) := HG.out.box.cell (i := 6) (by decide)
        have d7 : wr.cell? ⟨w.heap.size, 7, none⟩ = some (.int .i64 M) := HG.out.box.cell (i := 7) (by decide)
        obtain ⟨ra, HRA⟩ : ∃ x, Hid (x = rwI n) := ⟨_, rfl⟩
        obtain ⟨ca, HCA⟩ : ∃ x, Hid (x = clI n) := ⟨_, rfl⟩
        have a0 : wr.cell? ⟨g2, n * 2, none⟩ = some ra := by rw [HRA.out]; exact (HTB.out n hlt).1
        have a1 : wr.cell? ⟨g2, n * 2 + 1, none⟩ = some ca := by rw [HCA.out]; exact (HTB.out n hlt).2
        have HMT : Hid (∀ z, Below wr.heap.size wr z → Calls Try.prog 92 #[.pointer (some ⟨r, 0, none⟩), .agg #[.int .i64 V, .int .i64 (nW : Int), .int .i64 H, .int .i64 K, .int .i64 L, .int .i64 D, .int .i64 N, .int .i64 M], .agg #[ra, ca]] z fun e w' => ∃ g, e = .returned (.agg #[.int .i64 (rowM nW kv D n), .int .i64 (colM nW D n), .slice (some ⟨g, 0, none⟩) (szM a b c n) (szM a b c n)]) ∧ PlP w wr w' r gl [V, (nW : Int), H, K, L, D, N, M] l bb B q bd g (szM a b c n)) := fun z hz => by
          rw [HRA.out, HCA.out]
          exact (pl_mat (HG.out.fresh hrl hz) hrl hbb (HR.out.fresh hz) V H K L D N M kv nW a b c hH hH4 hW hW2 hkv kv0 kv1 pa pb pc pd a0' b0 c0 ba bb1 bc hlt).mono (fun _ _ ⟨g, e, k⟩ => ⟨g, e, k.pre hz⟩)
        obtain ⟨RM, HRM⟩ : ∃ x, Hid (x = rowM nW kv D n) := ⟨_, rfl⟩
        obtain ⟨CM, HCM⟩ : ∃ x, Hid (x = colM nW D n) := ⟨_, rfl⟩
        obtain ⟨SM, HSM⟩ : ∃ x, Hid (x = szM a b c n) := ⟨_, rfl⟩
        rw [← HRM.out, ← HCM.out, ← HSM.out] at HMT
        clear hG hR hS hK htab
        go_upto_region 8 with fail
        go_region_with (go_at_call 92; refine (HMT.out _ (by first | exact Below.refl _ _ | exact (Below.refl _ _).drew)).mono ?_; rintro e x0 ⟨g, rfl, hP⟩; have HPP := hidd hP; obtain ⟨s0, hs0⟩ : ∃ x, x0.cell? ⟨gl, 2 + 3 * n, none⟩ = some x := ⟨_, hP.lw.loc.cell (i := 2 + 3 * n) (by omega)⟩; obtain ⟨s1, hs1⟩ : ∃ x, x0.cell? ⟨gl, 2 + 3 * n + 1, none⟩ = some x := ⟨_, hP.lw.loc.cell (i := 2 + 3 * n + 1) (by omega)⟩; obtain ⟨s2, hs2⟩ : ∃ x, x0.cell? ⟨gl, 2 + 3 * n + 2, none⟩ = some x := ⟨_, hP.lw.loc.cell (i := 2 + 3 * n + 2) (by omega)⟩; have fz := hP.lw.loc.frozen; clear hP)
        all_goals
          have HP2 := HPP.out
          rw [HSM.out] at HP2
          have HNX := hidd (lps_next hrl hbb HG2.out.1 HG2.out.2 hlt HSn.out HK.out HTB.out HP2)
          rw [← HRM.out, ← HCM.out, ← HSM.out] at HNX
          clear HPP HP2 hs0 hs1 hs2 fz
          go_wp2
          go_roundw
          case rel => exact ⟨n + 1, by omega, by go_num, HNX⟩
          case measure => simp [intOf]; omega
      · have i1 : ¬ (n : Int) < 7 := by omega
        have hn7 : n = 7 := by omega
        subst hn7
        have H7 := hidd (take_any hR (n := 7) (by decide) (by decide))
        have HQL := hidd hR.le
        have HBY := hidd hR.byt
        clear hG hR hS hK htab
        go_wp2_with (go_at_call 66; refine H7.out.mono ?_; rintro e z1 ⟨ao, c9, rfl, hrd, hao, hrr, hcc⟩)
        obtain ⟨b9, o, hab, hcl⟩ := hrd.one (by decide)
        subst hab
        have hgl : ¬ b9 = gl := by
          have := HG.out.size
          have := HG.out.hg
          rcases hao b9 o rfl with e | e
          · omega
          · omega
        have n1 := hrd.le
        have n2 := hrd.top
        unfold maxLen at n2
        have HG9 := hidd (HG.out.call hrl hcc)
        have HV9 := hidd hrr
        have HCL := hidd hcl
        have HTKB := hidd (tkB_byt HBY.out q 7)
        obtain ⟨q2, HQ2⟩ : ∃ x, Hid (x = tkP B q 7) := ⟨_, rfl⟩
        obtain ⟨bd2, HBD2⟩ : ∃ x, Hid (x = (bd || decide (B.length < q + 7))) := ⟨_, rfl⟩
        obtain ⟨T7, HT7⟩ : ∃ x, Hid (x = tkB B q 7) := ⟨_, rfl⟩
        rw [← HQ2.out, ← HBD2.out] at HV9
        rw [← HT7.out] at HCL HTKB
        clear H7 hrd hao hrr hcc hcl
        go_loopw [9, 10, 45] (fun _ _ iv wq => ∃ (i : Nat) (l' : LyD), i ≤ 7 ∧ iv = .int .i64 i ∧ Hid (Lwd w wq r gl [V, (nW : Int), H, K, L, D, N, M] l') ∧ Hid (Rdr wq r bb B q2 bd2) ∧ Hid (Chg z1 wq (fun x => x = gl)) ∧ Hid (l'.n1 = l.n1 ∧ l'.n2 = l.n2 ∧ (∀ t, t < 7 → mtI l' t = mtI l t) ∧ ∀ j, j < i → l'.sh j = T7.getD j 0)) (fun _ _ iv _ => 7 - (intOf iv).toNat)
        case atStart => exact ⟨0, l, by omega, by simp, HG9, HV9, Chg.refl _ _, rfl, rfl, fun _ _ => rfl, fun j hj => absurd hj (by omega)⟩
        case round =>
          clear HG9 HV9
          obtain ⟨i, l', hi, rfl, HGi, HVi, HCi, HKi⟩ := hrel
          by_cases hlt2 : i < 7
          · have j1 : (i : Int) < 7 := by omega
            have j0 : (0 : Int) ≤ (i : Int) := by omega
            obtain ⟨x, hx⟩ : ∃ x, Hid (x = T7.getD i 0) := ⟨_, rfl⟩
            have bx := HTKB.out.at_ i
            rw [← hx.out] at bx
            have cx : wr.cell? ⟨b9, o + i, none⟩ = some (.int .u8 x) := by rw [hx.out]; exact HCi.out.cell (HCL.out i hlt2) hgl
            have wx : IntKind.i64.wrap x = x := by rw [IntKind.wrap_i64]; omega
            obtain ⟨v0, s0⟩ : ∃ y, wr.cell? ⟨gl, 23 + i, none⟩ = some y := ⟨_, HGi.out.loc.cell (i := 23 + i) (by omega)⟩
            have fz := HGi.out.loc.frozen
            have HG2' := hidd (HGi.out.sh hlt2 x)
            have HV2 := hidd (HVi.out.put HGi.out hrl hbb (Chg.of_set wr gl (23 + i) (.int .i64 x)))
            have HC2 := hidd (HCi.out.trans (Chg.of_set wr gl (23 + i) (.int .i64 x)) (fun _ _ e => e))
            have HK2 : Hid (({ l' with sh := updS l'.sh i x } : LyD).n1 = l.n1 ∧ ({ l' with sh := updS l'.sh i x } : LyD).n2 = l.n2 ∧ (∀ t, t < 7 → mtI { l' with sh := updS l'.sh i x } t = mtI l t) ∧ ∀ j, j < i + 1 → ({ l' with sh := updS l'.sh i x } : LyD).sh j = T7.getD j 0) := by
              obtain ⟨k1, k2, k3, k4⟩ := HKi.out
              refine ⟨k1, k2, fun t ht => ?_, fun j hj => ?_⟩
              · rw [← k3 t ht]
                match t, ht with
                | 0, _ | 1, _ | 2, _ | 3, _ | 4, _ | 5, _ | 6, _ => rfl
              · show updS l'.sh i x j = _
                unfold updS
                by_cases e : j = i
                · rw [if_pos e, e, hx.out]
                · rw [if_neg e]; exact k4 j (by omega)
            obtain ⟨l2, hl2⟩ : ∃ l2 : LyD, Hid (l2 = ({ l' with sh := updS l'.sh i x } : LyD)) := ⟨_, rfl⟩
            rw [← hl2.out] at HG2' HK2
            clear HGi HVi HCi HKi
            go_wp2
            go_roundw
            case rel => exact ⟨i + 1, l2, by omega, by go_num, HG2', HV2, HC2, HK2⟩
            case measure => simp [intOf]; omega
          · have j1 : ¬ (i : Int) < 7 := by omega
            have RG' := row_range HGi.out.loc rfl
            obtain ⟨T9, hT⟩ : ∃ T9, T9 = lyA l' := ⟨_, rfl⟩
            have RG : Hid (wr.rangeAt gl 0 T9.toList) := by rw [hT]; exact RG'
            have SL : Hid ((Try.prog.info? 67).map (·.size) = some T9.toList.length) := by rw [hT]; exact sizeL
            have S30 : Hid ((Try.prog.info? 67).map (·.size) = some T9.size) := by rw [hT]; exact sizeL
            have H1 : Hid (T9.all (·.oneCell') = true) := by rw [hT]; exact lyA_one _
            obtain ⟨old, hold, hosz, _⟩ := HGi.out.res
            have HOLD := hidd hold
            have HOSZ : Hid (old.size = T9.size) := by rw [hT]; exact hosz
            have HTT := hidd hT
            clear hold hosz hT RG'
            go_wp2_with (refine wpList_load_mid rfl 67 _ rfl gl 0 rfl T9.toList _ RG.out Try.underlying67 rfl SL.out (wpList_store_row rfl 67 _ _ rfl (w.heap.size + 1) T9 rfl rfl 67 old HOLD.out S30.out HOSZ.out H1.out ?_))
            refine bodyPost_ret (v := .agg T9) ?_ ?_ ?_
            · exact results_cell_row Try.results70 _ _ (w.heap.size + 1) 67 _ (0, 0) _ rfl (setRow_heap _ _ _ _ _ _ HOLD.out) Try.underlying67 rfl S30.out
            · rfl
            · refine ⟨l', by rw [HTT.out], ?_⟩
              obtain ⟨k1, k2, k3, k4⟩ := HKi.out
              have hi7 : i = 7 := by omega
              rw [hi7] at k4
              have HV := HVi.out
              rw [HT7.out] at k4
              rw [HQ2.out, HBD2.out] at HV
              exact lyq_of T9 hrl hbb hS HS7.out HSn.out HK.out HQL.out HBY.out k1 k2 k3 k4 HGi.out HV
end Go.Proofs.Ytilghknalbhacaa
