import Derived.Test.YtdceahebkohbjabScT
namespace Go.Proofs.Ytdceahebkohbjab
open Go.RowKit
/-! The reference's Seats. -/
def okP (c : Me) (n : Nat) (S : Nat → Se) : Prop := (∀ i, i < n → okS c (S i)) ∧ ∀ i j, i < j → j < n → ¬ (S i).id = (S j).id
set_option maxRecDepth 100000 in
set_option maxHeartbeats 4000000 in
theorem rseats_any {w : World} (c : Me) (hc : okM c 1) {ao : Option Addr} {n cap : Nat} {S : Nat → Se} (h : SeA w ao n cap S) (x : Int) (h1 : okA c n S → x = 0) (h2 : ¬ okA c n S → x = 1) :
    Calls Try.prog 23 #[mV c, .slice ao n cap] w fun e w' => e = .returned (.int .i64 x) ∧ Below w.heap.size w w' := by
  have hmm : n ≤ 9223372036854775807 := by have := h.rd.le; have := h.rd.top; unfold maxLen at this; omega
  have H1 := hidd h1
  have H2 := hidd h2
  have HC := hidd hc
  have HH := hidd h
  clear h1 h2 hc h
  obtain ⟨w0, HW0⟩ : ∃ w0, Hid (w0 = w.alloc (.cells #[.int .i64 c.bs, .int .i64 c.bl, .int .i64 c.bu, .int .i64 c.ch, .int .i64 c.tr] 23)) := ⟨_, rfl⟩
  have HB0 : Hid (Below w.heap.size w w0) := by rw [HW0.out]; exact fresh_alloc _ _
  have hbx := box5 w (.int .i64 c.bs) (.int .i64 c.bl) (.int .i64 c.bu) (.int .i64 c.ch) (.int .i64 c.tr) 23
  simp only at hbx
  rw [← HW0.out] at hbx
  have HBX := hidd hbx
  clear hbx
  unfold mV
  go_enter Try.func23, Try.ntmps23
  go_upto_region 1 with fail
  rw [← HW0.out]
  by_cases hn : 16 < n
  · have d1 : decide ((16 : Int) < (n : Int)) = true := decide_eq_true (by omega)
    obtain rfl := H2.out (fun h => by have := h.1; omega)
    go_wp2
    go_ret
    exact ⟨rfl, HB0.out⟩
  have d1 : decide ((16 : Int) < (n : Int)) = false := decide_eq_false (by omega)
  go_wp2
  clear d1
  go_loopw [5] (fun v wr => ∃ i : Nat, i ≤ n ∧ v = .int .i64 i ∧ Hid (okP c i S) ∧ Hid (Below w0.heap.size w0 wr)) (fun v _ => n - (intOf v).toNat)
  case atStart => exact ⟨0, by omega, rfl, ⟨fun i hi => absurd hi (by omega), fun i j _ hj => absurd hj (by omega)⟩, Below.refl _ _⟩
  case round =>
    obtain ⟨i, hi, rfl, HK, HF⟩ := hrel
    have HFW := hidd (HB0.out.trans (HF.out.mono HB0.out.size))
    by_cases hlt : i < n
    · obtain ⟨b1, o1, rfl, hcell⟩ := (HH.out.fresh HFW.out).rd.seat (by omega)
      obtain ⟨x1, x2, x3, x4, x5⟩ := hcell i hlt
      have HCE := hidd hcell
      clear hcell
      have k1 : (i : Int) < (n : Int) := by omega
      have k0 : (0 : Int) ≤ (i : Int) := by omega
      go_upto_region 6 with fail
      have l1 := later_cell x1
      have l2 := later_cell x2
      have l3 := later_cell x3
      have l4 := later_cell x4
      have l5 := later_cell x5
      have m0 := later_cell (fresh_cell HF.out HBX.out.1)
      have m1 := later_cell (fresh_cell HF.out HBX.out.2.1)
      have m2 := later_cell (fresh_cell HF.out HBX.out.2.2.1)
      have m3 := later_cell (fresh_cell HF.out HBX.out.2.2.2.1)
      have m4 := later_cell (fresh_cell HF.out HBX.out.2.2.2.2)
      have ne := later_some wr
      clear x1 x2 x3 x4 x5
      have HMY : Hid (∀ (b : Bool) (z : Later wr), (b = true ↔ okS c (S i)) → Calls Try.prog 32 #[.agg #[.int .i64 c.bs, .int .i64 c.bl, .int .i64 c.bu, .int .i64 c.ch, .int .i64 c.tr], .agg #[.int .i64 (S i).id, .int .i64 (S i).kn, .int .i64 (S i).ca, .int .i64 (S i).wa, .slice (S i).ho (S i).hn (S i).hc]] z.val fun e w' => e = .returned (.bool b) ∧ Below z.val.heap.size z.val w') := fun b z hb => rmay_any c HC.out (S i) (((HH.out.hd i hlt).fresh HFW.out).fresh z.fresh) b hb
      by_cases hok : okS c (S i)
      · have HM1 := hidd (fun z => HMY.out true z ⟨fun _ => hok, fun _ => rfl⟩)
        have HOK := hidd hok
        clear hok HMY
        refine wp_region_later (by kernel_rfl) (by kernel_rfl) ?_
        repeat (go_big_quiet_step (fail))
        go_big_quiet_step (exact later_of (HM1.out _))
        repeat (go_big_quiet_step (fail))
        refine wpQuiet_nil ?_
        rintro _ ⟨z, rfl⟩
        have HZ := hidd (HF.out.trans (z.fresh.mono HF.out.size))
        clear l1 l2 l3 l4 l5 m0 m1 m2 m3 m4 ne HM1
        generalize z.val = w1 at *
        go_wp2
        go_loopw [7] (fun v wi => ∃ k : Nat, k ≤ i ∧ v = .int .i64 k ∧ Hid (∀ j, j < k → ¬ (S j).id = (S i).id) ∧ Hid (Below w0.heap.size w0 wi)) (fun v _ => i - (intOf v).toNat)
        case atStart => exact ⟨0, by omega, rfl, fun j hj => absurd hj (by omega), HZ⟩
        case round =>
          rename_i wi hrel
          clear HZ
          obtain ⟨k, hk, rfl, HN, HG⟩ := hrel
          have HGW := hidd (HB0.out.trans (HG.out.mono HB0.out.size))
          by_cases hki : k < i
          · obtain ⟨b2, o2, e2, hc2⟩ := (HH.out.fresh HGW.out).rd.seat (by omega)
            cases e2
            have z1 := (hc2 k (by omega)).1
            have z2 := (hc2 i hlt).1
            clear hc2
            obtain ⟨ya, HYA⟩ : ∃ y, Hid (y = (S k).id) := ⟨_, rfl⟩
            obtain ⟨yb, HYB⟩ : ∃ y, Hid (y = (S i).id) := ⟨_, rfl⟩
            rw [← HYA.out] at z1
            rw [← HYB.out] at z2
            have q0 : (0 : Int) ≤ (k : Int) := by omega
            have q1 : (k : Int) < (n : Int) := by omega
            by_cases he : ya = yb
            · have dd : (ya == yb) = true := by simp; exact he
              obtain rfl := H2.out (fun h => h.2.2 k i hki hlt (by rw [← HYA.out, ← HYB.out]; exact he))
              clear he
              go_wp2
              go_quiet (fail)
              go_wp2
              go_ret
              exact ⟨rfl, below_drewN HGW.out _⟩
            · have dd : (ya == yb) = false := by simp; exact he
              have HE : Hid (¬ (S k).id = (S i).id) := by rw [← HYA.out, ← HYB.out]; exact he
              clear he
              go_wp2
              go_quiet (fail)
              go_wp2
              go_roundw
              case rel => exact ⟨k + 1, by omega, by go_num, fun j hj => (by
                by_cases e : j = k
                · rw [e]; exact HE.out
                · exact HN.out j (by omega)), below_drewN HG.out _⟩
              case measure => simp [intOf]; omega
          · obtain rfl : k = i := by omega
            have HKN : Hid (okP c (k + 1) S) := ⟨fun j hj => (by
              by_cases e : j = k
              · rw [e]; exact HOK.out
              · exact HK.out.1 j (by omega)), fun a b hab hb => (by
              by_cases e : b = k
              · rw [e]; exact HN.out a (by omega)
              · exact HK.out.2 a b hab (by omega))⟩
            go_wp2
            go_roundw
            case rel => exact ⟨k + 1, by omega, by go_num, HKN, HG⟩
            case measure => simp [intOf]; omega
      · have HM1 := hidd (fun z => HMY.out false z ⟨fun q => (by cases q), fun q => absurd q hok⟩)
        obtain rfl := H2.out (fun h => hok (h.2.1 i hlt))
        clear hok HMY
        refine wp_region_later (by kernel_rfl) (by kernel_rfl) ?_
        repeat (go_big_quiet_step (fail))
        go_big_quiet_step (exact later_of (HM1.out _))
        repeat (go_big_quiet_step (fail))
        refine wpQuiet_nil ?_
        rintro _ ⟨z, rfl⟩
        have HZ := hidd (HFW.out.trans (z.fresh.mono HFW.out.size))
        go_wp2
        go_ret
        exact ⟨rfl, HZ.out⟩
    · obtain rfl : i = n := by omega
      obtain rfl := H1.out ⟨by omega, HK.out.1, HK.out.2⟩
      go_wp2
      go_ret
      exact ⟨rfl, HFW.out⟩
/-! A plan hangs on the seats but for where their blocks lie. -/
theorem has_er {s t : Se} (h : er s = er t) (b : Nat) : has s b = has t b := by
  unfold has
  rw [er_hn h, er_H h]
theorem hs_er {n : Nat} {L M : Nat → Se} (h : ∀ i, i < n → er (L i) = er (M i)) (out : Nat → Bool) : hs L n out = hs M n out := by
  funext b
  rw [Bool.eq_iff_iff, hs_iff, hs_iff]
  constructor
  · rintro ⟨p, h1, h2, h3⟩
    exact ⟨p, h1, h2, by rw [← has_er (h p h1)]; exact h3⟩
  · rintro ⟨p, h1, h2, h3⟩
    exact ⟨p, h1, h2, by rw [has_er (h p h1)]; exact h3⟩
theorem rom_er {c : Me} {n : Nat} {g : Int} {p : Nat} {L M : Nat → Se} (h : ∀ i, i < n → er (L i) = er (M i)) (hp : p < n) (out : Nat → Bool) : rom c L n g p out = rom c M n g p out := by
  unfold rom fre
  rw [hs_er h out, er_hn (h p hp), er_ca (h p hp)]
theorem vict_er {c : Me} {n : Nat} {g : Int} {p : Nat} {l : Int} {L M : Nat → Se} (h : ∀ i, i < n → er (L i) = er (M i)) (hp : p < n) : ∀ (y : Nat) (out : Nat → Bool) (ids : List Nat), y < n → vict c L n g p l y out ids = vict c M n g p l y out ids := by
  intro y
  induction y with
  | zero => intro out ids _; unfold vict; rw [rom_er h hp out]
  | succ y ih =>
    intro out ids hy
    unfold vict
    rw [rom_er h hp out, er_hn (h (y + 1) hy), ih out ids (by omega), ih _ _ (by omega)]
theorem rst_er {s t : Se} (h : er s = er t) : rst s = rst t := by unfold rst; rw [er_kn h, er_ca h]
theorem mst_er {c : Me} {s t : Se} (h : er s = er t) (left : Int) : mst c s left = mst c t left := by unfold mst; rw [rst_er h, er_wa h]
theorem lst_er {c : Me} {s t : Se} (h : er s = er t) (left : Int) : lst c s left = lst c t left := by unfold lst; rw [rst_er h]
theorem bey_er {c : Me} {s t : Se} (h : er s = er t) (x : Int) : bey c s x = bey c t x := by unfold bey; rw [er_ca h, er_hn h]
theorem lok_er {c : Me} {n : Nat} {p : Nat} {L M : Nat → Se} (h : ∀ i, i < n → er (L i) = er (M i)) (hp : p < n) (st : Pn) : lok c L n p st = lok c M n p st := by
  unfold lok
  rw [vict_er h hp _ _ _ (by omega), lst_er (h p hp)]
  split
  · rfl
  · next ot js _ => rw [mst_er (h p hp), rom_er h hp ot, bey_er (h p hp)]
theorem mkN_er {c : Me} {n : Nat} {pk qk : Int → Bool} {L M : Nat → Se} (h : ∀ i, i < n → er (L i) = er (M i)) (hk : ∀ i, i < n → pk (L i).id = qk (L i).id) : ∀ p, p ≤ n → mkN c L n pk p = mkN c M n qk p
  | 0, _ => rfl
  | p + 1, hp => by
    have ih := mkN_er (c := c) h hk p (by omega)
    rw [mkN, mkN, ih, hk p (by omega), er_id (h p (by omega)), lok_er h (by omega)]
end Go.Proofs.Ytdceahebkohbjab
