import Derived.Test.YtppcgfdogacmkaaPP
namespace Go.Proofs.Ytppcgfdogacmkaa
open Go.RowKit
/-! square. -/
def occ (m : Nat → Nat) (bl : Nat → Nat → Nat) (b : Nat) : Nat → Nat
  | 0 => 0
  | i + 1 => occ m bl b i + tms (bl i) b (m i)
theorem timesN_tms (f : Nat → Nat) (b n : Nat) : timesN (fun j => ((f j : Nat) : Int)) (b : Int) n = tms f b n := rfl
set_option maxRecDepth 20000 in
set_option maxHeartbeats 4000000 in
theorem square_any {x : Fx} {w : World} {s : Dy} {gl : Nat} {vF : Value} {nf : Nat} {fr : Nat → Nat} (h : Lg x w s gl vF nf fr) (hB : x.B ≤ 17) (hnf : nf ≤ 4294967296) :
    Calls Try.prog 25 #[.pointer (some ⟨gl, 0, none⟩), .int .i64 x.B] w fun e w' => e = .returned (.bool true) ∧ Below w.heap.size w w' := by
  obtain ⟨c0, c1, c2⟩ := row3 h.row
  have H := hidd h
  have hlc : 3 ≤ x.lc := by have := h.st.ln; rw [h.tn] at this; exact this
  obtain ⟨aF, kF, hvF, hrF⟩ := h.own.rd
  have HF := hidd hrF
  rw [hvF] at c2
  have C0 := hidd (fun (z : World) (f : Below w.heap.size w z) => fresh_cell f c0)
  have C1 := hidd (fun (z : World) (f : Below w.heap.size w z) => fresh_cell f c1)
  have C2 := hidd (fun (z : World) (f : Below w.heap.size w z) => fresh_cell f c2)
  clear hvF hrF h c0 c1 c2
  go_enter Try.func25, Try.ntmps25
  go_wp2
  go_loopw [5, 6] (fun v i wr => ∃ (k L : Nat) (F : Nat → Nat), k ≤ 3 ∧ i = .int .i64 k ∧ L ≤ 17 * k ∧ Own wr w.heap.size 3 1 v L (fun j => .int .i64 (F j)) ∧ Hid (∀ b, tms F b L = occ s.m s.bl b k) ∧ Below w.heap.size w wr) (fun _ i _ => 3 - (intOf i).toNat)
  case atStart => exact ⟨0, 0, fun _ => 0, by omega, rfl, by omega, own_nil _ _ _ _ _, fun _ => rfl, Below.refl _ _⟩
  case round =>
    obtain ⟨k, L, F, hk, rfl, hL, hown, HT, hf⟩ := hrel
    have c1 := C1.out _ hf
    by_cases hlt : k < 3
    · have htn : k < x.tn := by rw [H.out.tn]; exact hlt
      have hst := H.out.st.fresh hf
      have cL := hst.cell htn
      have HBl := hidd (hst.blocks htn (by have := H.out.lk.len hlt; omega))
      have hmk := H.out.lk.len hlt
      have HOW := hidd hown
      have hszf := hf.size
      obtain ⟨ao, cap, rfl, _⟩ := hown.rd
      clear hst hown
      go_upto_region 6 with (go_at_call 18; with_reducible refine HBl.out.mono ?_; rintro e w1 ⟨ab, kb, rfl, ho1, f1, _⟩)
      clear HBl
      have hf1 := fresh_trans hf (f1.mono (Nat.le_refl _)) |> fun _ => hf.trans (f1.mono hszf)
      have hoff : Off (.slice ao L cap) (.slice ab (s.m k) kb) := fun q hq hq2 => by
        have := (HOW.out.lt q hq).2
        have := (ho1.lt q hq2).1
        omega
      have HO1 : Hid (Own w1 w.heap.size 3 1 (.slice ao L cap) L (fun j => .int .i64 (extB F L (s.bl k) j))) := (HOW.out.kept f1).congr (fun j hj => by rw [extB_lt (by omega)])
      have HB1 : Hid (Own w1 w.heap.size 3 1 (.slice ab (s.m k) kb) (s.m k) (fun j => .int .i64 (s.bl k j))) := ho1.weaken hszf
      clear ho1 HOW
      go_wp2
      go_loopw [5, 8] (fun v i wr => ∃ (q : Nat), q ≤ s.m k ∧ i = .int .i64 q ∧ Own wr w.heap.size 3 1 v (L + q) (fun j => .int .i64 (extB F L (s.bl k) j)) ∧ Own wr w.heap.size 3 1 (.slice ab (s.m k) kb) (s.m k) (fun j => .int .i64 (s.bl k j)) ∧ Off v (.slice ab (s.m k) kb) ∧ Below w.heap.size w wr) (fun _ i _ => s.m k - (intOf i).toNat)
      case atStart => exact ⟨0, by omega, rfl, HO1.out, HB1.out, hoff, hf1⟩
      case round =>
        clear HO1 HB1 hoff hf1 f1
        obtain ⟨q, hq, rfl, hown, hbo, hoff, hf⟩ := hrel
        have hszf := hf.size
        by_cases hlq : q < s.m k
        · have hy := H.out.lk.lt k hlt q hlq
          have HY1 : Hid (tms (s.bl k) (s.bl k q) (s.m k) = 1) := tms_one (H.out.lk.ne k hlt) hlq
          have hrb := hbo.rd
          obtain ⟨ab', kb', hv, hrb⟩ := hrb
          simp only [Value.slice.injEq] at hv
          obtain ⟨rfl, _, rfl⟩ := hv
          have HTI : Hid (∀ z : World, Own z w.heap.size 3 1 (.slice ab (s.m k) kb) (s.m k) (fun j => .int .i64 (s.bl k j)) → Calls Try.prog 21 #[.slice ab (s.m k) kb, .int .i64 (s.bl k q : Nat)] z fun e w' => e = .returned (.int .i64 1) ∧ w' = z) := fun z hz => by
            obtain ⟨a9, k9, hv9, hr9⟩ := hz.rd
            simp only [Value.slice.injEq] at hv9
            obtain ⟨rfl, _, rfl⟩ := hv9
            have := times_any hr9 ((s.bl k q : Nat) : Int)
            rw [timesN_tms, HY1.out] at this
            exact this
          obtain ⟨b1, o1, rfl, hc1⟩ := hrb.one (by omega)
          have d1 := hc1 q hlq
          have HO2 := hidd (fun (ob : Obj) => hown.kept (fresh_alloc wr ob))
          have HB2 := hidd hbo
          have HOF := hidd hoff
          have hkb := hrb.le
          have hkb2 : kb ≤ 9223372036854775807 := by have := hrb.top; unfold maxLen at this; omega
          have HX : Hid (∀ (w0 : World) (t : TypeId), (w0.alloc (.cells #[.int .i64 (s.bl k q : Nat)] t)).cell? ⟨w0.heap.size, 0, none⟩ = some ((fun j => Value.int .i64 ((extB F L (s.bl k) j : Nat) : Int)) (L + q))) := fun w0 t => by rw [new_cell]; simp only [extB_at]
          have HDC : Hid (∀ z : World, Own z w.heap.size 3 1 (.slice (some ⟨b1, o1, none⟩) (s.m k) kb) (s.m k) (fun j => .int .i64 (s.bl k j)) → z.cell? ⟨b1, o1 + q, none⟩ = some (.int .i64 (s.bl k q : Nat))) := fun z hz => by
            obtain ⟨a9, k9, hv9, hr9⟩ := hz.rd
            simp only [Value.slice.injEq] at hv9
            obtain ⟨rfl, _, rfl⟩ := hv9
            obtain ⟨b9, o9, e9, hc9⟩ := hr9.one (by omega)
            simp only [Option.some.injEq, Addr.mk.injEq] at e9
            obtain ⟨rfl, rfl, _⟩ := e9
            exact hc9 q hlq
          have HOWN := hidd hown
          obtain ⟨a3, k3, rfl, _⟩ := hown.rd
          clear hown hbo hoff hrb hc1
          generalize hyy : s.bl k q = y at d1 hy HTI HX HDC
          clear hyy
          have g1 : decide ((y : Int) < 0) = false := by simp
          have g2 : decide ((x.B : Int) ≤ (y : Int)) = false := by simp; omega
          go_wp2_with (first
            | (at_builtin; refine wpList_app1 _ rfl _ _ 45 rfl w.heap.size 3 (.int .i64 0) 8 Try.underlying45 infoI rfl _ (L + q) (fun j => .int .i64 (extB F L (s.bl k) j)) rfl (HO2.out _) _ 1 rfl (HX.out _ _) rfl (by omega) (by omega) (by simp; omega) ?_; intro v' w7 hown' happ; have HB7 := hidd (happ.own (HB2.out.kept (fresh_alloc _ _)) HOF.out); have d7 := HDC.out _ HB7.out; have HOW7 := hidd hown'; have HF7 := hidd (happ.off (HB2.out.kept (fresh_alloc _ _)) HOF.out); have HL7 := hidd (happ.below (hf.alloc hszf _) (HOWN.out.kept (fresh_alloc _ _)) (Nat.le_refl _) (by simp; omega)); clear hown' happ d1)
            | (go_at_call 21; with_reducible refine (HTI.out _ HB7.out).mono ?_; rintro e w8 ⟨rfl, h8⟩; rw [h8]; clear h8))
          go_roundw
          case rel => exact ⟨q + 1, by omega, by go_num, HOW7.out, HB7.out, HF7.out, HL7.out⟩
          case measure => simp [intOf]; omega
        · obtain rfl : q = s.m k := by omega
          go_wp2
          go_roundw
          case rel => exact ⟨k + 1, L + s.m k, _, by omega, by go_num, by omega, hown, fun b => by rw [tms_ext, HT.out b]; rfl, hf⟩
          case measure => simp [intOf]; omega
    · have hk3 : k = 3 := by omega
      have HK3 := hidd hk3
      clear hk3
      have HO1 := hidd (hown.congr (cs' := fun j => .int .i64 ((extB F L fr j : Nat) : Int)) (fun j hj => by rw [extB_lt (by omega)]))
      clear hown
      go_wp2
      go_loopw [5, 9] (fun v i wr => ∃ (q : Nat), q ≤ nf ∧ i = .int .i64 q ∧ Own wr w.heap.size 3 1 v (L + q) (fun j => .int .i64 (extB F L fr j)) ∧ Below w.heap.size w wr) (fun _ i _ => nf - (intOf i).toNat)
      case atStart => exact ⟨0, by omega, rfl, HO1.out, hf⟩
      case round =>
        clear HO1 hf c1
        obtain ⟨q, hq, rfl, hown, hf⟩ := hrel
        have hszf := hf.size
        have c2 := C2.out _ hf
        by_cases hlq : q < nf
        · have hrb := HF.out.fresh (hf.mono (Nat.le_refl _))
          obtain ⟨b1, o1, rfl, hc1⟩ := hrb.one (by omega)
          have d1 := hc1 q hlq
          have hkb := hrb.le
          have hkb2 : kF ≤ 9223372036854775807 := by have := hrb.top; unfold maxLen at this; omega
          have HO2 := hidd (fun (ob : Obj) => hown.kept (fresh_alloc wr ob))
          have HX : Hid (∀ (w0 : World) (t : TypeId), (w0.alloc (.cells #[.int .i64 (fr q : Nat)] t)).cell? ⟨w0.heap.size, 0, none⟩ = some ((fun j => Value.int .i64 ((extB F L fr j : Nat) : Int)) (L + q))) := fun w0 t => by rw [new_cell]; simp only [extB_at]
          have HOWN := hidd hown
          obtain ⟨a3, k3, rfl, _⟩ := hown.rd
          clear hown hrb hc1
          generalize fr q = y at d1 HX
          go_wp2_with (at_builtin; refine wpList_app1 _ rfl _ _ 45 rfl w.heap.size 3 (.int .i64 0) 8 Try.underlying45 infoI rfl _ (L + q) (fun j => .int .i64 (extB F L fr j)) rfl (HO2.out _) _ 1 rfl (HX.out _ _) rfl (by omega) (by omega) (by simp; omega) ?_; intro v' w7 hown' happ; have HOW7 := hidd hown'; have HL7 := hidd (happ.below (hf.alloc hszf _) (HOWN.out.kept (fresh_alloc _ _)) (Nat.le_refl _) (by simp; omega)); clear hown' happ d1)
          go_roundw
          case rel => exact ⟨q + 1, by omega, by go_num, HOW7.out, HL7.out⟩
          case measure => simp [intOf]; omega
        · obtain rfl : q = nf := by omega
          have HTM : Hid (∀ b, b < x.B → tms (extB F L fr) b (L + q) = s.cnt b) := fun b hb => by
            rw [tms_ext, HT.out b, H.out.lk.cnt b hb, HK3.out]
            simp only [occ]
            omega
          obtain ⟨aA, kA, rfl, hrA⟩ := hown.rd
          have HTI : Hid (∀ b, b < x.B → Calls Try.prog 21 #[.slice aA (L + q) kA, .int .i64 (b : Nat)] wr fun e w' => e = .returned (.int .i64 (s.cnt b : Nat)) ∧ w' = wr) := fun b hb => by
            have := times_any hrA ((b : Nat) : Int)
            rw [timesN_tms, HTM.out b hb] at this
            exact this
          have hst := H.out.st.fresh hf
          have HCN : Hid (∀ b, b < x.B → Calls Try.prog 28 #[.pointer (some ⟨x.g, 0, none⟩), .int .i64 (b : Nat)] wr fun e w' => e = .returned (.int .i64 (s.cnt b : Nat)) ∧ w' = wr) := fun b hb => by
            have := count_any hst.P (b : Nat)
            rw [cntI_nat s.cnt hb] at this
            exact this
          have HLF := hidd hst.left
          have HSM := hidd (fun b (hb : b < x.B) => H.out.lk.small hb)
          have c0 := C0.out _ hf
          clear hst hrA hown HT
          go_wp2
          go_loopw [10, 11] (fun l i wx => ∃ (b : Nat), b ≤ x.B ∧ i = .int .i64 b ∧ l = .int .i64 (freeN s.cnt b : Nat) ∧ wx = wr) (fun _ i _ => x.B - (intOf i).toNat)
          case atStart => exact ⟨0, by omega, rfl, rfl, rfl⟩
          case round =>
            obtain ⟨b, hb, rfl, rfl, hw⟩ := hrel
            rw [hw]
            clear hw
            have hle := freeN_le s.cnt b
            by_cases hlb : b < x.B
            · have HTb := hidd (HTI.out b hlb)
              have HCb := hidd (HCN.out b hlb)
              have hsm := HSM.out b hlb
              have hs : Hid (freeN s.cnt (b + 1) = freeN s.cnt b + (if s.cnt b = 0 then 1 else 0)) := rfl
              generalize s.cnt b = cb at *
              generalize freeN s.cnt b = fb at *
              by_cases h0 : cb = 0
              · subst h0
                go_wp2_with (first
                  | (go_at_call 21; with_reducible refine HTb.out.mono ?_; rintro e w8 ⟨rfl, h8⟩; rw [h8]; clear h8)
                  | (go_at_call 28; with_reducible refine HCb.out.mono ?_; rintro e w8 ⟨rfl, h8⟩; rw [h8]; clear h8))
                go_roundw
                case rel => exact ⟨b + 1, by omega, by go_num, by rw [hs.out]; simp, trivial⟩
                case measure => simp [intOf]; omega
              · have hb0 : ((cb : Int) == 0) = false := by simp [h0]
                go_wp2_with (first
                  | (go_at_call 21; with_reducible refine HTb.out.mono ?_; rintro e w8 ⟨rfl, h8⟩; rw [h8]; clear h8)
                  | (go_at_call 28; with_reducible refine HCb.out.mono ?_; rintro e w8 ⟨rfl, h8⟩; rw [h8]; clear h8))
                go_roundw
                case rel => exact ⟨b + 1, by omega, by go_num, by rw [hs.out]; simp [h0], trivial⟩
                case measure => simp [intOf]; omega
            · obtain rfl : b = x.B := by omega
              go_wp2_with (go_at_call 19; with_reducible refine HLF.out.mono ?_; rintro e w8 ⟨rfl, h8⟩; rw [h8]; clear h8)
              go_ret
              exact ⟨rfl, hf⟩
end Go.Proofs.Ytppcgfdogacmkaa
