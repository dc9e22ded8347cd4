import Derived.Test.YtaalinlggjimcaaXG
namespace Go.Proofs.Ytaalinlggjimcaa
open Go.RowKit
/-! blocks, leastLately. -/
set_option maxRecDepth 20000 in
set_option maxHeartbeats 1600000 in
theorem blocks_any {w : World} {c : Ca} {A : Nat → Prop} {L : List Nd} {N : Nat} (h : CacheAt w c A L N) {p : List (List Int)} {b o n : Nat} (ha : AdrOf c.C L p b o) (hn : n = p.length) (hp : p.length ≤ 256) :
    Calls Try.prog 38 #[.pointer (some ⟨b, o, none⟩)] w fun e w' => ∃ F : Nat → Value, e = .returned (.slice (some ⟨w.heap.size, 0, none⟩) n n) ∧ w'.rowIs w.heap.size 3 n F ∧ (∀ j, j < n → ∀ x ∈ L, x.path = p.take (j + 1) → F j = .int .i64 x.blk) ∧ Below w.heap.size w w' := by
  obtain ⟨iI, hiI, zI0, zI1, zI2⟩ := info_parts infoI
  have hmk : ∀ w, (Instr.makeSlice 22 (.int .i64 (n : Int)) (.int .i64 (n : Int))).run Try.prog w = .ok (.slice (some ⟨w.heap.size, 0, none⟩) n n) (w.alloc (.cells (madeCells #[.int .i64 0] n) 3)) := run_make_row 22 3 iI (.int .i64 0) Try.underlying22 hiI zI0 zI1 rfl .i64 .i64 n (by rw [zI2]; omega) (by omega)
  clear hiI zI0 zI1 zI2
  obtain ⟨a0, _, _⟩ := h.adr ha
  rw [← hn] at a0
  have hn2 : n ≤ 256 := by omega
  have HN := hidd hn
  clear hn hp
  have R0 := World.rowIs_made w (.int .i64 0) n 3
  have f0 := fresh_alloc w (.cells (madeCells #[.int .i64 0] n) 3)
  have HH := hidd h
  have HA := hidd ha
  clear h ha
  go_enter Try.func38, Try.ntmps38
  go_wp2
  clear a0 hmk
  go_loopw [0] (fun v wr => ∃ (k b o : Nat) (F : Nat → Value), k ≤ n ∧ v = .pointer (some ⟨b, o, none⟩) ∧ Hid (AdrOf c.C L (p.take k) b o) ∧ wr.rowIs w.heap.size 3 n F ∧ Hid (∀ j, k ≤ j → j < n → ∀ x ∈ L, x.path = p.take (j + 1) → F j = .int .i64 x.blk) ∧ Below w.heap.size w wr) (fun v wr => lenOf wr v)
  case atStart => exact ⟨n, b, o, _, Nat.le_refl _, rfl, by show AdrOf _ _ _ _ _; rw [HN.out, List.take_length]; exact HA.out, R0, fun j h1 h2 => absurd h1 (by omega), f0⟩
  case round =>
    clear R0 f0 HA
    obtain ⟨k, b, o, F, hk, rfl, HA, hrow, HF, hf⟩ := hrel
    have hC := HH.out.fresh hf
    obtain ⟨a0, _, _⟩ := hC.adr HA.out
    rw [List.length_take, Nat.min_eq_left (by rw [← HN.out]; omega)] at a0
    cases k with
    | zero =>
      clear hC
      go_wp2
      go_ret
      exact ⟨F, rfl, hrow, fun j hj => HF.out j (Nat.zero_le _) hj, hf⟩
    | succ k =>
      rcases HA.out with ⟨e, _⟩ | ⟨x, hx, hxp, rfl, rfl⟩
      · have := congrArg List.length e
        rw [List.length_take, Nat.min_eq_left (by rw [← HN.out]; omega)] at this
        simp at this
      · obtain ⟨b', o', ha', n0, n17, _, n19, _, _, _, _⟩ := hC.nd hx
        rw [hxp, take_drop (by rw [← HN.out]; omega)] at ha'
        obtain ⟨a0', _, _⟩ := hC.adr ha'
        rw [List.length_take, Nat.min_eq_left (by rw [← HN.out]; omega)] at a0'
        have m0 := lenOf_eq a0
        have hg : x.at_ ≠ w.heap.size := by
          obtain ⟨_, _, _, hr⟩ := HH.out.node x hx
          have := hr.lt
          omega
        have hg2 : b' ≠ w.heap.size := by
          obtain ⟨q0, _, _⟩ := HH.out.adr ha'
          have := lt_of_cell q0
          omega
        have d := hrow.cell (i := k) (by omega)
        have fr := hrow.frozen
        have HX := hidd (And.intro hx hxp)
        have HA' := hidd ha'
        have A0 := hidd a0'
        have ek : ((k + 1 : Nat) : Int) = (k : Int) + 1 := by push_cast; rfl
        rw [ek] at a0
        have HR := hidd hrow
        have i0 : (0 : Int) ≤ (k : Int) := by omega
        have i1 : (k : Int) < (n : Int) := by omega
        have e1 : (k : Int) + 1 - 1 = (k : Int) := by omega
        have ew : IntKind.i64.wrap (k : Int) = (k : Int) := wrap_small _ (by omega) (by omega)
        clear hC n0 ha' a0' hx hxp hrow
        go_wp2
        go_region
        all_goals
          have hr9 := (HR.out.drew.set k (.int .i64 x.blk))
          go_wp2
          have hf9 : Below w.heap.size w (wr.drew.setCell ⟨w.heap.size, k, none⟩ (.int .i64 x.blk)) := hf.drew.setCell (Nat.le_refl _) _
          have m8 := lenOf_eq (w := wr.drew.setCell ⟨w.heap.size, k, none⟩ (.int .i64 x.blk)) (b := b') (o := o') (n := k) (by
            rw [World.cell?_setCell_other]
            · exact A0.out
            · intro e; exact hg2 (congrArg Addr.block e).symm)
          go_roundw
          case rel =>
            refine ⟨k, b', o', _, by omega, rfl, HA'.out, hr9, fun j h1 h2 y hy hyp => ?_, hf9⟩
            by_cases e : j = k
            · subst e
              have := HH.out.well.dpath y hy x HX.out.1 (by rw [hyp, HX.out.2])
              subst this
              simp
            · simp only [if_neg e]
              exact HF.out j (by omega) h2 y hy hyp
          case measure =>
            show lenOf _ _ < lenOf _ _
            simp only [m0]
            exact Nat.lt_of_le_of_lt (Nat.le_of_eq m8) (Nat.lt_succ_self k)
/-- it may go -/
def May (L : List Nd) (cnt : Nat → Nat) (x : Nd) : Prop := lg L x.path = 0 ∧ cnt x.blk = 1
def Ahead (x y : Nd) : Prop := x.used < y.used ∨ (x.used = y.used ∧ x.blk ≤ y.blk)
/-- the least lately used of those below k that may go -/
def LeastTo (L : List Nd) (cnt : Nat → Nat) (k : Nat) (v : Value) : Prop :=
  (v = nilP ∧ ∀ y ∈ L, y.blk < k → ¬ May L cnt y) ∨ ∃ x ∈ L, v = x.ptr ∧ May L cnt x ∧ x.blk < k ∧ ∀ y ∈ L, y.blk < k → May L cnt y → Ahead x y
theorem LeastTo.skip {L : List Nd} {cnt : Nat → Nat} {k : Nat} {v : Value} (h : LeastTo L cnt k v) (hno : ∀ y ∈ L, y.blk = k → ¬ May L cnt y) : LeastTo L cnt (k + 1) v := by
  have hle : ∀ y ∈ L, y.blk < k + 1 → May L cnt y → y.blk < k := fun y hy h1 h2 => by
    have : y.blk ≠ k := fun e => hno y hy e h2
    omega
  rcases h with ⟨h1, h2⟩ | ⟨x, hx, h1, h2, h3, h4⟩
  · exact .inl ⟨h1, fun y hy hl hm => h2 y hy (hle y hy hl hm) hm⟩
  · exact .inr ⟨x, hx, h1, h2, by omega, fun y hy hl hm => h4 y hy (hle y hy hl hm) hm⟩
set_option maxRecDepth 20000 in
set_option maxHeartbeats 3200000 in
theorem least_any {w : World} {c : Ca} {A : Nat → Prop} {L : List Nd} {N : Nat} (h : CacheAt w c A L N) {cb nb Y W S : Nat} {cnt : Nat → Nat} {num : Nat → Int} (hp : PoolAt w c.pg cb nb Y W c.B S cnt num) :
    Calls Try.prog 42 #[.pointer (some ⟨c.C, 0, none⟩)] w fun e w' => (∃ v, e = .returned v ∧ LeastTo L cnt c.B v) ∧ Below w.heap.size w w' := by
  obtain ⟨c0, _, _, _, _, c24, _⟩ := h.cells
  obtain ⟨hB1, hB2⟩ := h.well.hB
  have HH := hidd h
  have HP := hidd hp
  have C0 := hidd c0
  clear h hp c0
  go_enter Try.func42, Try.ntmps42
  go_wp2
  clear c24
  go_loopw [3, 11] (fun v i wr => ∃ k : Nat, k ≤ c.B ∧ i = .int .i64 k ∧ Hid (LeastTo L cnt k v) ∧ Below w.heap.size w wr) (fun _ i _ => c.B - (intOf i).toNat)
  case atStart => exact ⟨0, by omega, rfl, .inl ⟨rfl, fun y _ h => absurd h (by omega)⟩, Below.refl _ _⟩
  case round =>
    obtain ⟨k, hk, rfl, HL, hf⟩ := hrel
    by_cases hlt : k < c.B
    · have d := fresh_cell hf (HH.out.own.cell (i := k) hlt)
      rcases ownF_cases L k with ⟨y, hy, hyk, e⟩ | ⟨hno, e⟩
      · rw [e] at d
        unfold Nd.ptr at d
        have hC := HH.out.fresh hf
        obtain ⟨_, _, _, _, _, n18, _, n20, _, _, _⟩ := hC.nd hy
        have c0 := fresh_cell hf C0.out
        have HCN := count_any (HP.out.fresh hf) k
        rw [cntI_nat cnt hlt] at HCN
        have HY := hidd (And.intro hy hyk)
        obtain ⟨q, hq⟩ : ∃ q, q = lg L y.path := ⟨_, rfl⟩
        have HQ := hidd hq
        rw [← hq] at n18
        obtain ⟨r, hr⟩ : ∃ r, r = cnt k := ⟨_, rfl⟩
        have HR := hidd hr
        rw [← hr] at HCN
        have HU : Hid (∀ z ∈ L, z.blk = k → z = y) := fun z hz ez => HH.out.well.dblk z hz y hy (ez.trans hyk.symm)
        clear hC hq hr e hy hyk
        by_cases hq0 : q = 0
        · subst hq0
          by_cases hr1 : r = 1
          · subst hr1
            have HM : Hid (May L cnt y) := ⟨HQ.out.symm, by rw [HY.out.2]; exact HR.out.symm⟩
            rcases HL.out with ⟨rfl, hnone⟩ | ⟨x, hx, rfl, hmx, hxk, hall⟩
            · have HNO := hidd hnone
              clear hnone
              unfold nilP
              go_wp2_with (go_at_call 23; refine HCN.mono ?_; rintro e w9 ⟨rfl, h9⟩; rw [h9]; clear h9)
              go_quiet (fail)
              go_wp2
              go_roundw
              case rel =>
                refine ⟨k + 1, by omega, by go_num, .inr ⟨y, HY.out.1, rfl, HM.out, by rw [HY.out.2]; omega, fun z hz hzk hmz => ?_⟩, below_drewN hf _⟩
                by_cases ez : z.blk = k
                · have := HU.out z hz ez
                  subst this
                  exact .inr ⟨rfl, Nat.le_refl _⟩
                · exact absurd hmz (HNO.out z hz (by omega))
              case measure => simp [intOf]; omega
            · obtain ⟨_, _, _, _, _, _, _, x20, _, _, _⟩ := (HH.out.fresh hf).nd hx
              have HX := hidd (And.intro hx (And.intro hmx (And.intro hxk hall)))
              clear hx hmx hxk hall
              unfold Nd.ptr
              by_cases hc : y.used < x.used
              · have hd : decide ((y.used : Int) < (x.used : Int)) = true := by simp; omega
                go_wp2_with (go_at_call 23; refine HCN.mono ?_; rintro e w9 ⟨rfl, h9⟩; rw [h9]; clear h9)
                go_quiet (fail)
                go_wp2
                go_roundw
                case rel =>
                  refine ⟨k + 1, by omega, by go_num, .inr ⟨y, HY.out.1, rfl, HM.out, by rw [HY.out.2]; omega, fun z hz hzk hmz => ?_⟩, below_drewN hf _⟩
                  by_cases ez : z.blk = k
                  · have := HU.out z hz ez
                    subst this
                    exact .inr ⟨rfl, Nat.le_refl _⟩
                  · have := HX.out.2.2.2 z hz (by omega) hmz
                    unfold Ahead at *
                    omega
                case measure => simp [intOf]; omega
              · have hd : decide ((y.used : Int) < (x.used : Int)) = false := by simp; omega
                go_wp2_with (go_at_call 23; refine HCN.mono ?_; rintro e w9 ⟨rfl, h9⟩; rw [h9]; clear h9)
                go_quiet (fail)
                go_wp2
                go_roundw
                case rel =>
                  refine ⟨k + 1, by omega, by go_num, .inr ⟨x, HX.out.1, rfl, HX.out.2.1, by have := HX.out.2.2.1; omega, fun z hz hzk hmz => ?_⟩, below_drewN hf _⟩
                  by_cases ez : z.blk = k
                  · have := HU.out z hz ez
                    subst this
                    have := HX.out.2.2.1
                    unfold Ahead
                    omega
                  · exact HX.out.2.2.2 z hz (by omega) hmz
                case measure => simp [intOf]; omega
          · have hb : ((r : Int) == 1) = false := by simp; omega
            have HS := hidd (HL.out.skip (fun z hz ez hm => hr1 (by have := HU.out z hz ez; subst this; rw [HR.out, ← HY.out.2]; exact hm.2)))
            go_wp2_with (go_at_call 23; refine HCN.mono ?_; rintro e w9 ⟨rfl, h9⟩; rw [h9]; clear h9)
            go_roundw
            case rel => exact ⟨k + 1, by omega, by go_num, HS.out, hf⟩
            case measure => simp [intOf]; omega
        · have hd : decide ((0 : Int) < (q : Int)) = true := by simp; omega
          have HS := hidd (HL.out.skip (fun z hz ez hm => hq0 (by have := HU.out z hz ez; subst this; rw [HQ.out]; exact hm.1)))
          go_wp2
          go_roundw
          case rel => exact ⟨k + 1, by omega, by go_num, HS.out, hf⟩
          case measure => simp [intOf]; omega
      · rw [e] at d
        unfold nilP at d
        have HS := hidd (HL.out.skip (fun z hz ez => absurd ez (hno z hz)))
        clear hno e
        go_wp2
        go_roundw
        case rel => exact ⟨k + 1, by omega, by go_num, HS.out, hf⟩
        case measure => simp [intOf]; omega
    · obtain rfl : k = c.B := by omega
      go_wp2
      go_ret
      exact ⟨⟨_, rfl, HL.out⟩, hf⟩
end Go.Proofs.Ytaalinlggjimcaa
