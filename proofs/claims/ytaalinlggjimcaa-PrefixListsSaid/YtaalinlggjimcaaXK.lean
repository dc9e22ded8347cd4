import Derived.Test.YtaalinlggjimcaaXJ
namespace Go.Proofs.Ytaalinlggjimcaa
open Go.RowKit
/-! longest. -/
theorem Groups.look_all {w : World} {M O : Nat} {A : Nat → Prop} {G : Value → List Value} (h : Groups w M O A G) {k : Value} {l : Lit} (hk : keyOf Try.prog 75 k = some l) {v : Value} (hr : (Instr.lookup 70 (.map (some M)) k false).run Try.prog w = .ok v w)
    (w' : World) (hw : w'.heap[M]? = w.heap[M]?) : (Instr.lookup 70 (.map (some M)) k false).run Try.prog w' = .ok v w' := by
  obtain ⟨es, clock, g⟩ := h
  have g' : w'.heap[M]? = some (.map es clock) := hw.trans g.blk
  rcases find_val (w := w) hk g.keys g.stamped.2.2 with ⟨h1, h2⟩ | ⟨j, e0, h1, h2, h3, h4⟩
  · rcases find_val (w := w') hk g.keys g.stamped.2.2 with ⟨k1, k2⟩ | ⟨j', e1, k1, k2, k3, k4⟩
    · simp [Instr.lookup, run_underlying Try.underlying70, MapKept.run_getObj_map g.blk, klaw.check w _ hk, h1, Result.andThen] at hr
      subst hr
      simp [Instr.lookup, run_underlying Try.underlying70, MapKept.run_getObj_map g', klaw.check w' _ hk, k1, Result.andThen]
    · exact absurd k3 (h2 e1 (List.mem_of_getElem? k2))
  · rcases find_val (w := w') hk g.keys g.stamped.2.2 with ⟨k1, k2⟩ | ⟨j', e1, k1, k2, k3, k4⟩
    · exact absurd h3 (k2 e0 (List.mem_of_getElem? h2))
    · simp [Instr.lookup, run_underlying Try.underlying70, MapKept.run_getObj_map g.blk, klaw.check w _ hk, h1, Result.andThen] at hr
      subst hr
      rw [h4 e1 (List.mem_of_getElem? k2) k3]
      simp [Instr.lookup, run_underlying Try.underlying70, MapKept.run_getObj_map g', klaw.check w' _ hk, k1, Result.andThen]
theorem TextAt.take {w : World} {g : Nat} {t : List (List Int)} (h : TextAt w g t) (n : Nat) : TextAt w g (t.take n) := by
  refine ⟨fun j hj => ?_, fun p hp => h.pcs p (List.mem_of_mem_take hp)⟩
  rw [List.length_take] at hj
  rw [h.row j (by omega)]
  unfold textF
  have : (t.take n).getD (j / 16) [] = t.getD (j / 16) [] := by
    rw [List.getD_eq_getElem?_getD, List.getD_eq_getElem?_getD, List.getElem?_take_of_lt (by omega)]
  rw [this]
theorem last_take {t : List (List Int)} {n : Nat} (h : n + 1 ≤ t.length) : lastP (t.take (n + 1)) = t.getD n [] := by
  unfold lastP
  rw [List.getLastD_eq_getLast?, List.getLast?_eq_getElem?, List.length_take, Nat.min_eq_left h, Nat.add_sub_cancel, List.getElem?_take_of_lt (by omega), List.getD_eq_getElem?_getD]
open Classical in
theorem grp_mem {L : List Nd} {k v : Value} : v ∈ grpL L k ↔ ∃ y ∈ L, y.key = k ∧ v = y.ptr := by
  unfold grpL
  simp only [List.mem_map, List.mem_filter, decide_eq_true_eq]
  constructor
  · rintro ⟨y, ⟨h1, h2⟩, rfl⟩
    exact ⟨y, h1, h2, rfl⟩
  · rintro ⟨y, h1, h2, rfl⟩
    exact ⟨y, ⟨h1, h2⟩, rfl⟩
theorem lst_get {l : List Value} {j : Nat} (h : j < l.length) : lst l j ∈ l := getD_mem h
set_option maxRecDepth 100000 in
set_option maxHeartbeats 4000000 in
theorem longest_any {w : World} {c : Ca} {A : Nat → Prop} {L : List Nd} {N : Nat} (h : CacheAt w c A L N) {t : List (List Int)} {m g cap : Nat} (hm : m = t.length) (hT : TextAt w g t) (ht : m ≤ 1000) (hcap : m ≤ cap ∧ cap ≤ maxLen) :
    Calls Try.prog 35 #[.pointer (some ⟨c.C, 0, none⟩), .slice (some ⟨g, 0, none⟩) m cap] w fun e w' => (∃ k b o, e = .returned (.pointer (some ⟨b, o, none⟩)) ∧ k ≤ m ∧ AdrOf c.C L (t.take k) b o ∧ ∀ j, k < j → j ≤ m → ∀ x ∈ L, x.path ≠ t.take j) ∧ Below w.heap.size w w' := by
  obtain ⟨_, _, _, _, c23, _, _⟩ := h.cells
  have HH := hidd h
  have HT := hidd hT
  have HM := hidd hm
  have C23 := hidd c23
  obtain ⟨hcap1, hcap2⟩ := hcap
  clear h hT hm c23
  go_enter Try.func35, Try.ntmps35
  go_wp2
  go_loopw [5] (fun i wr => ∃ n : Nat, n ≤ m ∧ i = .int .i64 n ∧ Hid (∀ j, n < j → j ≤ m → ∀ x ∈ L, x.path ≠ t.take j) ∧ Below w.heap.size w wr) (fun i _ => (intOf i).toNat)
  case atStart => exact ⟨m, Nat.le_refl _, rfl, fun j h1 h2 => absurd h1 (by omega), Below.refl _ _⟩
  case round =>
    obtain ⟨n, hn, rfl, HNO, hf⟩ := hrel
    have c23 := fresh_cell hf C23.out
    cases n with
    | zero =>
      go_wp2
      go_ret
      exact ⟨⟨0, c.C, 2, rfl, Nat.zero_le _, .inl ⟨rfl, rfl, rfl⟩, HNO.out⟩, hf⟩
    | succ n =>
      have hC := HH.out.fresh hf
      have hTr : TextAt wr g t := by
        by_cases h0 : 0 < t.length
        · exact HT.out.below hf (lt_of_cell (HT.out.row 0 (by omega)))
        · exact ⟨fun j hj => absurd hj (by omega), HT.out.pcs⟩
      obtain ⟨p, hp⟩ : ∃ p, p = t.getD n [] := ⟨_, rfl⟩
      have hpp : Pc p := by rw [hp]; exact HT.out.pcs _ (getD_mem (by rw [← HM.out]; omega))
      have hpc : ∀ i v, (ints p)[i]? = some v → wr.cell? ⟨g, n * 16 + i, none⟩ = some v := by rw [hp]; exact hTr.piece (by rw [← HM.out]; omega)
      obtain ⟨kl, hkl⟩ := key_ok (n := ((n + 1 : Nat) : Int)) (by unfold fits; omega) hpp
      obtain ⟨v, hv, hL⟩ := hC.map.look hkl
      have hlook := fun d => hC.map.look_all hkl hv (wr.drewN d) rfl
      obtain ⟨ao, vc, rfl, hrd⟩ := hL.own.rd
      have HP := hidd hp
      have HTR := hidd hTr
      have HGR : Hid (∀ v ∈ grpL L (keyV ((n + 1 : Nat) : Int) p), ∃ y ∈ L, y.path.length = n + 1 ∧ lastP y.path = p ∧ v = y.ptr) := fun v hv => by
        obtain ⟨y, hy, ek, ev⟩ := grp_mem.1 hv
        obtain ⟨e1, e2⟩ := keyV_inj ek
        exact ⟨y, hy, by omega, e2, ev⟩
      have HGA : Hid (∀ y ∈ L, y.path = t.take (n + 1) → y.ptr ∈ grpL L (keyV ((n + 1 : Nat) : Int) p)) := fun y hy ey => by
        refine grp_mem.2 ⟨y, hy, ?_, rfl⟩
        unfold Nd.key
        rw [ey, List.length_take, Nat.min_eq_left (by rw [← HM.out]; exact hn), last_take (by rw [← HM.out]; exact hn), hp]
      obtain ⟨q, hq⟩ : ∃ q, q = (grpL L (keyV ((n + 1 : Nat) : Int) p)).length := ⟨_, rfl⟩
      have hq2 : q ≤ 256 := by
        rw [hq]
        have h1 : (grpL L (keyV ((n + 1 : Nat) : Int) p)).length ≤ L.length := by unfold grpL; rw [List.length_map]; exact List.length_filter_le _ _
        have := HH.out.well.len
        have := HH.out.well.hB
        omega
      have HRD : Hid (∀ Z, Below wr.heap.size wr Z → RdA Z ao 1 q vc (lst (grpL L (keyV ((n + 1 : Nat) : Int) p)))) := fun Z hz => by rw [hq]; exact hrd.fresh hz
      rw [← hq] at hlook hL hrd hv
      have HQ := hidd hq
      clear hp hTr hC hkl hv hL hrd hq
      obtain ⟨a0, a1, a2, a3, a4, a5, a6, a7, a8, a9, a10, a11, a12, a13, a14, a15, rfl⟩ := len16 hpp.1
      have p0 : wr.cell? ⟨g, n * 16, none⟩ = some (.int .i64 a0) := hpc 0 _ rfl
      have p1 : wr.cell? ⟨g, (n * 16 + 1), none⟩ = some (.int .i64 a1) := hpc 1 _ rfl
      have p2 : wr.cell? ⟨g, (n * 16 + 2), none⟩ = some (.int .i64 a2) := hpc 2 _ rfl
      have p3 : wr.cell? ⟨g, (n * 16 + 3), none⟩ = some (.int .i64 a3) := hpc 3 _ rfl
      have p4 : wr.cell? ⟨g, (n * 16 + 4), none⟩ = some (.int .i64 a4) := hpc 4 _ rfl
      have p5 : wr.cell? ⟨g, (n * 16 + 5), none⟩ = some (.int .i64 a5) := hpc 5 _ rfl
      have p6 : wr.cell? ⟨g, (n * 16 + 6), none⟩ = some (.int .i64 a6) := hpc 6 _ rfl
      have p7 : wr.cell? ⟨g, (n * 16 + 7), none⟩ = some (.int .i64 a7) := hpc 7 _ rfl
      have p8 : wr.cell? ⟨g, (n * 16 + 8), none⟩ = some (.int .i64 a8) := hpc 8 _ rfl
      have p9 : wr.cell? ⟨g, (n * 16 + 9), none⟩ = some (.int .i64 a9) := hpc 9 _ rfl
      have p10 : wr.cell? ⟨g, (n * 16 + 10), none⟩ = some (.int .i64 a10) := hpc 10 _ rfl
      have p11 : wr.cell? ⟨g, (n * 16 + 11), none⟩ = some (.int .i64 a11) := hpc 11 _ rfl
      have p12 : wr.cell? ⟨g, (n * 16 + 12), none⟩ = some (.int .i64 a12) := hpc 12 _ rfl
      have p13 : wr.cell? ⟨g, (n * 16 + 13), none⟩ = some (.int .i64 a13) := hpc 13 _ rfl
      have p14 : wr.cell? ⟨g, (n * 16 + 14), none⟩ = some (.int .i64 a14) := hpc 14 _ rfl
      have p15 : wr.cell? ⟨g, (n * 16 + 15), none⟩ = some (.int .i64 a15) := hpc 15 _ rfl
      have hlook2 : ∀ d, (Instr.lookup 70 (.map (some c.M)) (.agg #[.int .i64 ((n : Int) + 1), .int .i64 a0, .int .i64 a1, .int .i64 a2, .int .i64 a3, .int .i64 a4, .int .i64 a5, .int .i64 a6, .int .i64 a7, .int .i64 a8, .int .i64 a9, .int .i64 a10, .int .i64 a11, .int .i64 a12, .int .i64 a13, .int .i64 a14, .int .i64 a15]) false).run Try.prog (wr.drewN d) = .ok (.slice ao q vc) (wr.drewN d) := hlook
      have ek : ((n + 1 : Nat) : Int) = (n : Int) + 1 := by push_cast; rfl
      rw [ek]
      clear hpc hlook
      go_wp2
      go_quiet (fail)
      clear hlook2 p0 p1 p2 p3 p4 p5 p6 p7 p8 p9 p10 p11 p12 p13 p14 p15
      have hd0 : Below wr.heap.size wr (wr.drewN nq) := below_drewN (Below.refl _ _) nq
      obtain ⟨l, HL⟩ : ∃ l, Hid (l = grpL L (keyV ((n + 1 : Nat) : Int) [a0, a1, a2, a3, a4, a5, a6, a7, a8, a9, a10, a11, a12, a13, a14, a15])) := ⟨_, rfl⟩
      rw [← HL.out] at HGR HGA HRD HQ
      generalize wr.drewN nq = wq at *
      go_wp2
      go_loopw [7, 27] (fun _ i w2 => ∃ j : Nat, j ≤ q ∧ i = .int .i64 j ∧ Hid (∀ i, i < j → ∀ y ∈ L, lst l i = y.ptr → y.path ≠ t.take (n + 1)) ∧ Below wr.heap.size wr w2) (fun _ i _ => q - (intOf i).toNat)
      case atStart => exact ⟨0, Nat.zero_le _, rfl, fun i hi => absurd hi (by omega), hd0⟩
      case round =>
        clear hd0
        obtain ⟨j, hj, rfl, HJ, hz⟩ := hrel
        have hwz := hf.trans (hz.mono hf.size)
        by_cases hlt : j < q
        · obtain ⟨bb, off, rfl, hcs⟩ := (HRD.out _ hz).one (by omega)
          have d := hcs j hlt
          obtain ⟨y, hy, hyl, hyp, hyv⟩ := HGR.out _ (lst_get (l := l) (j := j) (by rw [← HQ.out]; exact hlt))
          rw [hyv] at d
          unfold Nd.ptr at d
          have hlt1 : (t.take (n + 1)).length = n + 1 := by rw [List.length_take, Nat.min_eq_left (by rw [← HM.out]; exact hn)]
          have hIS := is_any (cap := cap) (HH.out.fresh hwz) hy (t := t.take (n + 1)) (by rw [hlt1]; exact hyl) (by rw [hlt1]; omega) (by rw [hlt1]; omega) ((HTR.out.below hz (lt_of_cell (HTR.out.row 0 (by rw [← HM.out]; omega)))).take (n + 1))
          rw [hlt1] at hIS
          have HY := hidd (And.intro hy hyv)
          have nn : (0 : Int) ≤ (n : Int) + 1 := by omega
          have nn2 : (n : Int) + 1 ≤ (cap : Int) := by omega
          have tn : ((n : Int) + 1).toNat = n + 1 := by omega
          clear hcs hy hyl hyp hyv hlt1
          by_cases heq : y.path = t.take (n + 1)
          · rw [decide_eq_true heq] at hIS
            have HEQ := hidd heq
            clear heq
            go_wp2_with (go_at_call 64; refine hIS.mono ?_; rintro e w9 ⟨rfl, h9⟩)
            go_ret
            exact ⟨⟨n + 1, y.at_, 0, rfl, hn, .inr ⟨y, HY.out.1, HEQ.out, rfl, rfl⟩, HNO.out⟩, hwz.trans (h9.mono hwz.size)⟩
          · rw [decide_eq_false heq] at hIS
            have HEQ := hidd heq
            clear heq
            go_wp2_with (go_at_call 64; refine hIS.mono ?_; rintro e w9 ⟨rfl, h9⟩)
            go_roundw
            case rel =>
              refine ⟨j + 1, by omega, by go_num, fun i hi z hz' ez => ?_, hz.trans (h9.mono hz.size)⟩
              by_cases e : i = j
              · subst e
                have : z = y := HH.out.well.dat z hz' y HY.out.1 (by
                  have := ez.symm.trans HY.out.2
                  unfold Nd.ptr at this
                  injection this with this
                  injection this with this
                  injection this)
                subst this
                exact HEQ.out
              · exact HJ.out i (by omega) z hz' ez
            case measure => simp [intOf]; omega
        · obtain rfl : j = q := by omega
          go_wp2
          go_roundw
          case rel =>
            refine ⟨n, by omega, by go_num, fun i h1 h2 z hz' ez => ?_, hwz⟩
            by_cases e : i = n + 1
            · subst e
              obtain ⟨k, hk⟩ := List.mem_iff_getElem?.1 (HGA.out z hz' ez)
              have hkl := (List.getElem?_eq_some_iff.1 hk).1
              exact HJ.out k (by rw [HQ.out]; exact hkl) z hz' (by unfold lst; rw [List.getD_eq_getElem?_getD, hk]; rfl) ez
            · exact HNO.out i (by omega) h2 z hz' ez
          case measure => simp [intOf]
end Go.Proofs.Ytaalinlggjimcaa
