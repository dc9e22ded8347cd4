import Derived.Test.YtakekdbclmgeoaaTjC
namespace Go.Proofs.Ytakekdbclmgeoaa
open Go.RowKit
/-! TreeJoins. -/
theorem infoSR : (Try.prog.info? 23).map (fun i => (i.zero, i.size, i.bytes)) = some (some (.slice none 0 0), 1, 24) := by kernel_rfl
theorem own_type {w : World} {base : Nat} {e : TypeId} {sz : Nat} {v : Value} {n : Nat} {cs : Nat → Value} (h : Own w base e sz v n cs) {b : Nat} (hb : v.ownBlock = some b) : ∃ cur fr, w.heap[b]? = some (.cells cur e fr) := by
  rcases h.2 with ⟨e1, _⟩ | ⟨k, cap, cur, e1, _, hk, _⟩
  · rw [e1] at hb; simp [Value.ownBlock] at hb
  · rw [e1] at hb
    simp [Value.ownBlock] at hb
    subst hb
    exact ⟨_, _, hk⟩
theorem own_off {w : World} {base base' : Nat} {e e' : TypeId} {sz sz' : Nat} {v v' : Value} {n n' : Nat} {cs cs' : Nat → Value} (h : Own w base e sz v n cs) (k : Own w base' e' sz' v' n' cs') (het : e ≠ e') : Off v v' := fun b hb hb' => by
  obtain ⟨_, _, h1⟩ := own_type h hb
  obtain ⟨_, _, h2⟩ := own_type k hb'
  rw [h1] at h2
  cases h2
  exact het rfl
def csf (X : Nat → List (Int × Int)) (U : Nat → Option Addr) (C : Nat → Nat) : Nat → Value := fun j => .slice (U j) (X j).length (C j)
/-- the lists with marks, in memory of their own -/
def Ms (w0 wr : World) (X : Nat → List (Int × Int)) (U : Nat → Option Addr) (C : Nat → Nat) (i : Nat) : Prop := ∀ j, j < i → Own wr w0.heap.size 57 2 (.slice (U j) ((X j).length + 2) (C j)) ((X j).length + 2) (rwF (mkR (X j)))
set_option maxRecDepth 20000 in
set_option maxHeartbeats 3200000 in
theorem joins_law {w : World} {ao : Option Addr} {m cap : Nat} {X : Nat → List (Int × Int)} {A : Nat → Option Addr} {C : Nat → Nat} (h : Rl w ao m cap X A C) (hm : m ≤ 1048576) (ht : (jn X m).length ≤ 1048576) :
    Calls Try.prog 3 #[.slice ao m cap] w fun e w' => e = .returned (.bool true) ∧ Below w.heap.size w w' := by
  have HH := hidd h
  have HT := hidd ht
  have HXL : Hid (∀ i, i < m → (X i).length ≤ 1048576) := fun i hi => by
    have := jn_mono X (m - (i + 1)) (i + 1)
    rw [show i + 1 + (m - (i + 1)) = m by omega, jn_len] at this
    omega
  clear h ht
  go_enter Try.func3, Try.ntmps3
  go_wp2
  go_loopw [3, 4] (fun v vi wr => ∃ i : Nat, i ≤ m ∧ vi = .int .i64 i ∧ (∃ u c, v = .slice u i c ∧ Hid (∃ U C', Own wr w.heap.size 23 1 (.slice u i c) i (csf X U C') ∧ Ms w wr X U C' i)) ∧ Hid (Below w.heap.size w wr)) (fun _ vi _ => m - (intOf vi).toNat)
  case atStart => exact ⟨0, by omega, rfl, ⟨none, 0, rfl, fun _ => none, fun _ => 0, own_nil _ _ _ _ _, fun j hj => absurd hj (by omega)⟩, Below.refl _ _⟩
  case round =>
    obtain ⟨i, hi, rfl, ⟨u, c, rfl, HUC⟩, HB⟩ := hrel
    have hsz := HB.out.size
    by_cases hlt : i < m
    · have d1 : decide ((i : Int) < (m : Int)) = true := decide_eq_true (by omega)
      have d2 : (i : Int) < (m : Int) := by omega
      obtain ⟨b1, o1, hu, h1⟩ := (HH.out.out.fresh HB.out).one (by omega)
      subst hu
      have c1 : wr.cell? ⟨b1, o1 + i, none⟩ = some (.slice (A i) (X i).length (C i)) := h1 i hlt
      have HSP := hidd (spareR_any ((HH.out.inn i hlt).fresh HB.out) (HXL.out i hlt))
      have HHX : Hid (∀ (w2 : World) (u2 : Option Addr) (c2 : Nat), Mkr wr w2 u2 c2 (X i) → ∃ U' C', Hid (Own w2 w.heap.size 23 1 (.slice u i c) i (csf X U' C')) ∧ Hid (∀ (w0 : World) (t : TypeId), (w0.alloc (.cells #[.slice u2 (X i).length c2] t)).cell? ⟨w0.heap.size, 0, none⟩ = some (csf X U' C' i)) ∧ Hid (Ms w w2 X U' C' (i + 1)) ∧ Hid (Below w.heap.size w w2) ∧ w.heap.size ≤ w2.heap.size) := by
        intro w2 u2 c2 hmk
        obtain ⟨U, C', hO, hM⟩ := HUC.out
        refine ⟨fun j => if j = i then u2 else U j, fun j => if j = i then c2 else C' j, ?_, ?_, ?_, HB.out.trans (hmk.low.mono hsz), by have := hmk.low.size; omega⟩
        · refine (hO.kept hmk.low).congr (fun j hj => ?_)
          have hji : ¬ j = i := by omega
          unfold csf
          dsimp only
          rw [if_neg hji, if_neg hji]
        · intro w0 t
          rw [new_cell]
          unfold csf
          dsimp only
          rw [if_pos rfl, if_pos rfl]
        · intro j hj
          by_cases e : j = i
          · subst e
            dsimp only
            rw [if_pos rfl, if_pos rfl]
            exact hmk.own.weaken hsz
          · dsimp only
            rw [if_neg e, if_neg e]
            exact (hM j (by omega)).kept hmk.low
      obtain ⟨n, HN⟩ : ∃ n, Hid (n = (X i).length) := ⟨_, rfl⟩
      rw [← HN.out] at c1 HSP HHX
      clear h1
      go_wp2_with (first
        | (go_at_call 9; with_reducible refine HSP.out.mono ?_; rintro e w2 ⟨u2, c2, rfl, hmk⟩; obtain ⟨U', C', HO2, HX, HM2, HB2, hsz2⟩ := HHX.out w2 u2 c2 hmk; clear hmk HSP HHX)
        | (at_builtin; refine wpList_app1 _ rfl _ _ 22 rfl w.heap.size 23 (.slice none 0 0) 24 Try.underlying22 infoSR rfl _ i (csf X U' C') rfl (HO2.out.kept (fresh_alloc _ _)) _ 1 rfl (HX.out _ _) rfl (by omega) (by omega) (by simp; omega) ?_))
      intro v' w3 hown' happ
      have HF3 := hidd (happ.below (HB2.out.alloc hsz2 _) (HO2.out.kept (fresh_alloc _ _)) (Nat.le_refl _) (by simp; omega))
      obtain ⟨u3, c3, rfl, _⟩ := hown'.rd
      have HFI : Hid (∃ U C', Own w3 w.heap.size 23 1 (.slice u3 (i + 1) c3) (i + 1) (csf X U C') ∧ Ms w w3 X U C' (i + 1)) := ⟨U', C', hown', fun j hj => happ.own ((HM2.out j hj).kept (fresh_alloc _ _)) (own_off HO2.out (HM2.out j hj) (by decide))⟩
      clear happ hown' HO2 HX HM2 HB2
      go_wp2
      go_roundw
      case rel => exact ⟨i + 1, by omega, by go_num, ⟨u3, c3, rfl, HFI⟩, HF3⟩
      case measure => simp [intOf]; omega
    · obtain rfl : i = m := by omega
      obtain ⟨U, C', hO, hM⟩ := HUC.out
      have HRI : Hid (Rl wr u i c X U C') := ⟨own_rda hO, fun j hj => mkR_rd (own_rda (hM j hj))⟩
      have HMS := hidd hM
      have HJN := hidd (join_any HRI.out hm HT.out)
      obtain ⟨J, HJ⟩ : ∃ J, Hid (J = jn X i) := ⟨_, rfl⟩
      rw [← HJ.out] at HJN
      clear hO hM HUC
      go_wp2_with (go_at_call 10; with_reducible refine HJN.out.mono ?_; rintro e w2 ⟨u2, c2, rfl, ho2, hb2⟩)
      have HB2 := hidd (HB.out.trans (hb2.mono HB.out.size))
      have HR2 := hidd (HRI.out.fresh hb2)
      have HM2 : Hid (Ms w w2 X U C' i) := fun j hj => (HMS.out j hj).kept hb2
      have HO2 := hidd ho2
      have HRJ := hidd (rjoin_any (HH.out.fresh HB2.out) hm HT.out)
      rw [← HJ.out] at HRJ
      clear hb2 ho2 HJN HRI HMS HJ
      go_wp2_with (go_at_call 12; with_reducible refine HRJ.out.mono ?_; rintro e w3 ⟨u3, c3, rfl, ho3, hb3⟩)
      have HB3 := hidd (HB2.out.trans (hb3.mono HB2.out.size))
      have HR3 := hidd (HR2.out.fresh hb3)
      have HM3 : Hid (Ms w w3 X U C' i) := fun j hj => (HM2.out j hj).kept hb3
      have HEQ := hidd (eqRaw_same (own_rda (HO2.out.kept hb3)) (own_rda ho3))
      clear hb3 ho3 HRJ HR2 HM2 HO2
      go_wp2_with (go_at_call 11; with_reducible refine HEQ.out.mono ?_; rintro e w4 ⟨rfl, hb4⟩)
      have HB4 := hidd (HB3.out.trans (hb4.mono HB3.out.size))
      have HR4 := hidd (HR3.out.fresh hb4)
      have HM4 : Hid (Ms w w4 X U C' i) := fun j hj => (HM3.out j hj).kept hb4
      clear hb4 HEQ HR3 HM3
      go_loopw [6] (fun vk wq => ∃ k : Nat, k ≤ i ∧ vk = .int .i64 k ∧ Hid (Below w4.heap.size w4 wq)) (fun vk _ => i - (intOf vk).toNat)
      case atStart => exact ⟨0, by omega, rfl, Below.refl _ _⟩
      case round =>
        obtain ⟨k, hk, rfl, HF⟩ := hrel
        have HFW := hidd (HB4.out.trans (HF.out.mono HB4.out.size))
        by_cases hkl : k < i
        · have d1 : decide ((k : Int) < (i : Int)) = true := decide_eq_true (by omega)
          have d2 : (k : Int) < (i : Int) := by omega
          obtain ⟨b1, o1, hu1, h1⟩ := (HH.out.out.fresh HFW.out).one (by omega)
          subst hu1
          obtain ⟨b2, o2, hu2, h2⟩ := (HR4.out.out.fresh HF.out).one (by omega)
          subst hu2
          have l1 := later_cell (h1 k hkl)
          have l2 := later_cell (h2 k hkl)
          have ne := later_some wr
          have HQ : Hid (∀ x : Later wr, Calls Try.prog 13 #[.slice (U k) (X k).length (C' k), .slice (A k) (X k).length (C k)] x.val fun e w' => e = .returned (.bool true) ∧ Below x.val.heap.size x.val w') := fun x => staysR_any (((own_rda (HM4.out k hkl)).fresh HF.out).fresh x.fresh) (((HH.out.inn k hkl).fresh HFW.out).fresh x.fresh)
          clear h1 h2
          go_wp2
          refine wp_region_later (by kernel_rfl) (by kernel_rfl) ?_
          repeat (go_big_quiet_step (fail))
          go_big_quiet_step (exact later_of (HQ.out _))
          repeat (go_big_quiet_step (fail))
          refine wpQuiet_nil ?_
          rintro _ ⟨z, rfl⟩
          have HZ := hidd (HF.out.trans (z.fresh.mono HF.out.size))
          go_wp2
          go_roundw
          case rel => exact ⟨k + 1, by omega, by go_num, HZ⟩
          case measure => simp [intOf]; omega
        · obtain rfl : k = i := by omega
          go_wp2
          go_ret
          exact ⟨rfl, HFW.out⟩
end Go.Proofs.Ytakekdbclmgeoaa
