import Derived.Test.YtbpldnlafilbbaaNgRb
namespace Go.Proofs.Ytbpldnlafilbbaa
open Go.RowKit
/-! The reference's Propose. -/
theorem prR_takeR (tx : Nat → Int) (n d : Nat) {L : List Nat} {i : Nat} (h : i < L.length) : prR tx n d (L.take (i + 1)) = chR (prR tx n d (L.take i)) (fun j => tx (L.getD i 0 + j)) (cnN n d (prR tx n d (L.take i)) (L.getD i 0)) := by
  have e : L.take (i + 1) = L.take i ++ [L.getD i 0] := by
    rw [List.getD_eq_getElem?_getD, List.getElem?_eq_getElem h, List.take_succ_eq_append_getElem h]
    rfl
  rw [e, prR_app]
theorem prR_upto {tx : Nat → Int} {n d : Nat} {L : List Nat} {i W : Nat} (hi : i ≤ W) (h : (prR tx n d (L.take i)).length = 96) : prR tx n d (L.take W) = prR tx n d (L.take i) := by
  have e : L.take W = L.take i ++ (L.take W).drop i := by
    have := (List.take_append_drop i (L.take W)).symm
    rw [List.take_take, Nat.min_eq_left hi] at this
    exact this
  rw [e]
  exact prR_full h _
set_option maxRecDepth 20000 in
set_option maxHeartbeats 4000000 in
theorem rpropose_any {w : World} {Y : Nat} {S : Nat → Prop} {most n : Nat} {tx : Nat → Int} (h : Ri w Y S most n tx) (hm : 1 ≤ most ∧ most ≤ 4) (hn : n * 8 ≤ 140737488351232) (ways deep : Int) :
    Calls Try.prog 25 #[.pointer (some ⟨Y, 0, none⟩), .int .i64 ways, .int .i64 deep] w fun e w' => ∃ u c, e = .returned (.slice u (prO tx most n ways deep).length c) ∧ Own w' w.heap.size 31 2 (.slice u (prO tx most n ways deep).length c) (prO tx most n ways deep).length (rwF (prO tx most n ways deep)) ∧ Below w.heap.size w w' := by
  obtain ⟨tu, tc, _, c1, hrd⟩ := h.cells
  have HRD := hidd hrd
  have HCY : Hid (∀ wr, Below w.heap.size w wr → wr.cell? ⟨Y, 1, none⟩ = some (.slice tu n tc)) := fun wr hf => fresh_cell hf c1
  have hle := hrd.le
  have htop := hrd.top
  unfold maxLen at htop
  have HPL := hidd (rplaces_any h hm hn)
  obtain ⟨L, HHL⟩ : ∃ L, Hid (L = plL tx most n) := ⟨_, rfl⟩
  rw [← HHL.out] at HPL
  have HPO : Hid (prO tx most n ways deep = prR tx n deep.toNat (L.take ways.toNat)) := by
    show _ = _
    unfold prO
    rw [HHL.out]
  have hLn : L.length ≤ n := by rw [HHL.out]; exact plL_len _ _ _
  have HMEM : Hid (∀ i, i < L.length → 1 ≤ L.getD i 0 ∧ L.getD i 0 < n) := fun i hi => by
    refine plL_mem (tx := tx) (most := most) ?_
    rw [← HHL.out, List.getD_eq_getElem?_getD, List.getElem?_eq_getElem hi]
    exact List.getElem_mem _
  clear h hrd c1 HHL
  go_enter Try.func25, Try.ntmps25
  go_wp2_with (go_at_call 26; with_reducible refine HPL.out.mono ?_; rintro e w1 ⟨lu, lc, rfl, ho1, hb1⟩; have HLO := hidd (own_rda ho1); have HB1 := hidd hb1; clear ho1 hb1 HPL)
  go_loopw [7, 9] (fun vo vi wr => ∃ i : Nat, i ≤ L.length ∧ i ≤ ways.toNat ∧ vi = .int .i64 i ∧ (∃ u c, vo = .slice u (prR tx n deep.toNat (L.take i)).length c ∧ Hid (Own wr w1.heap.size 31 2 (.slice u (prR tx n deep.toNat (L.take i)).length c) (prR tx n deep.toNat (L.take i)).length (rwF (prR tx n deep.toNat (L.take i))))) ∧ Hid (Below w1.heap.size w1 wr)) (fun _ vi _ => L.length - (intOf vi).toNat)
  case atStart => exact ⟨0, by omega, by omega, rfl, ⟨none, 0, rfl, own_nil _ _ _ _ _⟩, Below.refl _ _⟩
  case round =>
    obtain ⟨i, hi1, hi2, rfl, ⟨u, c, rfl, HO⟩, HB⟩ := hrel
    have HBW := hidd (HB1.out.trans (HB.out.mono HB1.out.size))
    by_cases hlt : i < L.length
    · have d1 : decide ((i : Int) < (L.length : Int)) = true := decide_eq_true (by omega)
      by_cases hlw : i < ways.toNat
      · have d2 : decide ((i : Int) < ways) = true := decide_eq_true (by omega)
        obtain ⟨q, HQ⟩ : ∃ q, Hid (q = L.getD i 0) := ⟨_, rfl⟩
        have hq := HMEM.out i hlt
        rw [← HQ.out] at hq
        obtain ⟨hq1, hq2⟩ := hq
        have HTK := hidd (prR_takeR tx n deep.toNat hlt)
        obtain ⟨R, HR⟩ : ∃ R, Hid (R = prR tx n deep.toNat (L.take i)) := ⟨_, rfl⟩
        have hR96 : R.length ≤ 96 := by rw [HR.out]; exact prR_len _ _ _ _
        rw [← HR.out] at HO HTK ⊢
        rw [← HQ.out] at HTK
        obtain ⟨mn, HMN⟩ : ∃ mn, Hid (mn = cnN n deep.toNat R q) := ⟨_, rfl⟩
        have hmn : mn ≤ deep.toNat ∧ mn ≤ n - q ∧ R.length + mn ≤ 96 ∧ (mn = deep.toNat ∨ mn = n - q ∨ R.length + mn = 96) := by rw [HMN.out]; unfold cnN; omega
        rw [← HMN.out] at HTK
        obtain ⟨a, HA⟩ : ∃ a, Hid (a = R.length) := ⟨_, rfl⟩
        rw [← HA.out] at HO hR96 hmn ⊢
        have HS0 : Hid (Own wr w1.heap.size 31 2 (.slice u (a + 0) c) (a + 0) (rwF (chR R (fun j => tx (q + j)) 0))) := HO
        have HLQ : Hid (∀ wr, Below w1.heap.size w1 wr → ∃ b o, lu = some ⟨b, o, none⟩ ∧ wr.cell? ⟨b, o + i, none⟩ = some (.int .i64 (q : Int))) := fun wr hf => by
          obtain ⟨b, o, e, hc⟩ := (HLO.out.fresh hf).one (by omega)
          exact ⟨b, o, e, by rw [hc i hlt, HQ.out]; rfl⟩
        obtain ⟨lb, lo, hlu, _⟩ := HLQ.out wr HB.out
        subst hlu
        clear HO
        go_wp2
        go_loopw [7, 10] (fun vo vk wr => ∃ k : Nat, k ≤ mn ∧ vk = .int .i64 k ∧ (∃ u c, vo = .slice u (a + k) c ∧ Hid (Own wr w1.heap.size 31 2 (.slice u (a + k) c) (a + k) (rwF (chR R (fun j => tx (q + j)) k)))) ∧ Hid (Below w1.heap.size w1 wr)) (fun _ vk _ => mn - (intOf vk).toNat)
        case atStart => exact ⟨0, by omega, rfl, ⟨u, c, rfl, HS0⟩, HB⟩
        case round =>
          obtain ⟨k, hk, rfl, ⟨u', c', rfl, HOk⟩, HBk⟩ := hrel
          have HBWk := hidd (HB1.out.trans (HBk.out.mono HB1.out.size))
          have hszk := HBWk.out.size
          obtain ⟨b9, o9, e9, cl⟩ := HLQ.out wr HBk.out
          cases e9
          have cy := HCY.out wr HBWk.out
          have e1 : IntKind.i64.wrap ((q : Int) + (k : Int)) = (q : Int) + (k : Int) := wrap_small _ (by omega) (by omega)
          have e2 : (i : Int) < (L.length : Int) := by omega
          by_cases k1 : (k : Int) < deep
          · have f1 : decide ((k : Int) < deep) = true := decide_eq_true k1
            by_cases k2 : (q : Int) + (k : Int) < (n : Int)
            · have f2 : decide ((q : Int) + (k : Int) < (n : Int)) = true := decide_eq_true k2
              by_cases k3 : a + k = 96
              · have f3 : (((a + k : Nat) : Int) == 96) = true := by simp; omega
                have f3' : ((a : Int) + (k : Int) == 96) = true := by simp; omega
                obtain rfl : k = mn := by omega
                have HE : Hid (prO tx most n ways deep = chR R (fun j => tx (q + j)) k) := by
                  show _ = _
                  have h96 : (prR tx n deep.toNat (L.take (i + 1))).length = 96 := by rw [HTK.out, chR_len, ← HA.out]; exact k3
                  rw [HPO.out, prR_upto (show i + 1 ≤ ways.toNat by omega) h96, HTK.out]
                have HEL : Hid ((prO tx most n ways deep).length = a + k) := by
                  show _ = _
                  rw [HE.out, chR_len, HA.out]
                clear HTK hmn
                go_wp2
                go_quiet (fail)
                go_wp2
                go_ret
                rw [HEL.out, HE.out]
                exact ⟨u', c', rfl, (HOk.out.kept (fresh_drewN _ _)).weaken HB1.out.size, below_drewN HBWk.out _⟩
              · have f3 : (((a + k : Nat) : Int) == 96) = false := by simp; omega
                have f3' : ((a : Int) + (k : Int) == 96) = false := by simp; omega
                have hkm : k < mn := by omega
                have hak : a + k < 96 := by omega
                clear hmn
                obtain ⟨tb, to, htu, hct⟩ := (HRD.out.fresh HBWk.out).one (by omega)
                subst htu
                have ct := hct (q + k) (by omega)
                obtain ⟨y, HY⟩ : ∃ y, Hid (y = tx (q + k)) := ⟨_, rfl⟩
                rw [← HY.out] at ct
                have m1 : ((q : Int) + (k : Int)).toNat = q + k := by omega
                have m2 : (0 : Int) ≤ (q : Int) + (k : Int) := by omega
                go_wp2
                go_quiet (fail)
                have HO5 := hidd (HOk.out.kept (fresh_drewN wr nq))
                have HB5 := hidd (below_drewN HBk.out nq)
                have HB5w := hidd (below_drewN HBWk.out nq)
                have cl5 := fresh_cell (fresh_drewN wr nq) cl
                have cy5 := fresh_cell (fresh_drewN wr nq) cy
                have ct5 := fresh_cell (fresh_drewN wr nq) ct
                clear cl cy ct hct HOk HBk HBWk
                generalize wr.drewN nq = w5 at *
                have hs5 := HB5.out.size
                have m3 : IntKind.i64.wrap (((a + k : Nat) : Int) - 1) = ((a + k : Nat) : Int) - 1 := by rw [IntKind.wrap_i64]; omega
                have m3' : IntKind.i64.wrap ((a : Int) + (k : Int) - 1) = (a : Int) + (k : Int) - 1 := by rw [IntKind.wrap_i64]; omega
                by_cases k0 : k = 0
                · have HPV : Hid ((if k = 0 then (-1 : Int) else ((R.length + k : Nat) : Int) - 1) = -1) := if_pos k0
                  have g0 : ((k : Int) == 0) = true := by simpa using k0
                  have g0' : decide ((k : Int) = 0) = true := decide_eq_true (by omega)
                  clear k0
                  have HX0 : Hid (chR R (fun j => tx (q + j)) (k + 1) = chR R (fun j => tx (q + j)) k ++ [((-1), y)]) := by
                    show chR R (fun j => tx (q + j)) k ++ [(if k = 0 then -1 else ((R.length + k : Nat) : Int) - 1, tx (q + k))] = _
                    rw [HPV.out, HY.out]
                  have HOa : Hid (Own (w5.alloc (.cells #[.int .i64 (-1), .int .i64 y] 31)).drew w1.heap.size 31 2 (.slice u' (a + k) c') (a + k) (rwF (chR R (fun j => tx (q + j)) (k + 1)))) := ((HO5.out.congr (fun j hj => by rw [HX0.out]; exact rwF_app _ _ j (by rw [chR_len, ← HA.out]; exact hj))).kept (fresh_alloc _ _)).kept (Below.refl _ _).drew
                  have HXA : Hid (rwF (chR R (fun j => tx (q + j)) (k + 1)) ((a + k) * 2) = .int .i64 ((-1)) ∧ rwF (chR R (fun j => tx (q + j)) (k + 1)) ((a + k) * 2 + 1) = .int .i64 y) := by
                    have e8 : a + k = (chR R (fun j => tx (q + j)) k).length := by rw [chR_len, HA.out]
                    rw [HX0.out, e8]
                    exact ⟨rwF_fst _ _, rwF_snd _ _⟩
                  have HX : Hid ((w5.alloc (.cells #[.int .i64 ((-1)), .int .i64 y] 31)).cell? ⟨w5.heap.size, 0, none⟩ = some (rwF (chR R (fun j => tx (q + j)) (k + 1)) ((a + k) * 2)) ∧ (w5.alloc (.cells #[.int .i64 ((-1)), .int .i64 y] 31)).cell? ⟨w5.heap.size, 1, none⟩ = some (rwF (chR R (fun j => tx (q + j)) (k + 1)) ((a + k) * 2 + 1))) := by
                    rw [HXA.out.1, HXA.out.2]
                    exact ⟨by simp, by simp⟩
                  have HON : Hid ((rwF (chR R (fun j => tx (q + j)) (k + 1)) ((a + k) * 2)).oneCell' = true ∧ (rwF (chR R (fun j => tx (q + j)) (k + 1)) ((a + k) * 2 + 1)).oneCell' = true) := ⟨rwF_one _ _, rwF_one _ _⟩
                  have HFN : Hid (∀ (w9 : World) (g' cap' : Nat), App (w5.alloc (.cells #[.int .i64 (-1), .int .i64 y] 31)).drew w9 (.slice u' (a + k) c') (.slice (some ⟨g', 0, none⟩) (a + k + 1) cap') → Below w1.heap.size w1 w9) := fun w9 g' cap' ha9 => ha9.below ((HB5.out.alloc HB5.out.size _).drew) HOa.out (Nat.le_refl _) (by have := HB5.out.size; simp; omega)
                  clear HX0 HXA
                  go_wp2
                  go_region_law ((refine step_app2 _ (by rfl) _ _ _ (by rfl) w1.heap.size 31 (.agg #[.int .i64 0, .int .i64 0]) 16 Try.underlying28 infoR rfl _ (a + k) (rwF (chR R (fun j => tx (q + j)) (k + 1))) (by rfl) HOa.out w5.heap.size 1 (by rfl) HX.out.1 HX.out.2 HON.out.1 HON.out.2 (by omega) (by omega) (by simp; omega) ?_; intro g' cap' w9 ho9 ha9; have HO9 := hidd ho9; have HA9 := hidd ha9; clear ho9 ha9))
                  all_goals (
                    go_wp2
                    go_roundw
                    case rel => exact ⟨k + 1, by omega, by go_num, ⟨_, _, rfl, HO9⟩, HFN.out _ _ _ HA9.out⟩
                    case measure => simp [intOf]; omega)
                · have HPV : Hid ((if k = 0 then (-1 : Int) else ((R.length + k : Nat) : Int) - 1) = (a : Int) + (k : Int) - 1) := by
                    show _ = _
                    rw [if_neg k0, ← HA.out]
                    omega
                  have g0 : ((k : Int) == 0) = false := by simpa using k0
                  have HX0 : Hid (chR R (fun j => tx (q + j)) (k + 1) = chR R (fun j => tx (q + j)) k ++ [(((a : Int) + (k : Int) - 1), y)]) := by
                    show chR R (fun j => tx (q + j)) k ++ [(if k = 0 then -1 else ((R.length + k : Nat) : Int) - 1, tx (q + k))] = _
                    rw [HPV.out, HY.out]
                  have HOa : Hid (Own (w5.alloc (.cells #[.int .i64 ((a : Int) + (k : Int) - 1), .int .i64 y] 31)).drew w1.heap.size 31 2 (.slice u' (a + k) c') (a + k) (rwF (chR R (fun j => tx (q + j)) (k + 1)))) := ((HO5.out.congr (fun j hj => by rw [HX0.out]; exact rwF_app _ _ j (by rw [chR_len, ← HA.out]; exact hj))).kept (fresh_alloc _ _)).kept (Below.refl _ _).drew
                  have HXA : Hid (rwF (chR R (fun j => tx (q + j)) (k + 1)) ((a + k) * 2) = .int .i64 (((a : Int) + (k : Int) - 1)) ∧ rwF (chR R (fun j => tx (q + j)) (k + 1)) ((a + k) * 2 + 1) = .int .i64 y) := by
                    have e8 : a + k = (chR R (fun j => tx (q + j)) k).length := by rw [chR_len, HA.out]
                    rw [HX0.out, e8]
                    exact ⟨rwF_fst _ _, rwF_snd _ _⟩
                  have HX : Hid ((w5.alloc (.cells #[.int .i64 (((a : Int) + (k : Int) - 1)), .int .i64 y] 31)).cell? ⟨w5.heap.size, 0, none⟩ = some (rwF (chR R (fun j => tx (q + j)) (k + 1)) ((a + k) * 2)) ∧ (w5.alloc (.cells #[.int .i64 (((a : Int) + (k : Int) - 1)), .int .i64 y] 31)).cell? ⟨w5.heap.size, 1, none⟩ = some (rwF (chR R (fun j => tx (q + j)) (k + 1)) ((a + k) * 2 + 1))) := by
                    rw [HXA.out.1, HXA.out.2]
                    exact ⟨by simp, by simp⟩
                  have HON : Hid ((rwF (chR R (fun j => tx (q + j)) (k + 1)) ((a + k) * 2)).oneCell' = true ∧ (rwF (chR R (fun j => tx (q + j)) (k + 1)) ((a + k) * 2 + 1)).oneCell' = true) := ⟨rwF_one _ _, rwF_one _ _⟩
                  have HFN : Hid (∀ (w9 : World) (g' cap' : Nat), App (w5.alloc (.cells #[.int .i64 ((a : Int) + (k : Int) - 1), .int .i64 y] 31)).drew w9 (.slice u' (a + k) c') (.slice (some ⟨g', 0, none⟩) (a + k + 1) cap') → Below w1.heap.size w1 w9) := fun w9 g' cap' ha9 => ha9.below ((HB5.out.alloc HB5.out.size _).drew) HOa.out (Nat.le_refl _) (by have := HB5.out.size; simp; omega)
                  clear HX0 HXA
                  go_wp2
                  go_region_law ((refine step_app2 _ (by rfl) _ _ _ (by rfl) w1.heap.size 31 (.agg #[.int .i64 0, .int .i64 0]) 16 Try.underlying28 infoR rfl _ (a + k) (rwF (chR R (fun j => tx (q + j)) (k + 1))) (by rfl) HOa.out w5.heap.size 1 (by rfl) HX.out.1 HX.out.2 HON.out.1 HON.out.2 (by omega) (by omega) (by simp; omega) ?_; intro g' cap' w9 ho9 ha9; have HO9 := hidd ho9; have HA9 := hidd ha9; clear ho9 ha9))
                  all_goals (
                    go_wp2
                    go_roundw
                    case rel => exact ⟨k + 1, by omega, by go_num, ⟨_, _, rfl, HO9⟩, HFN.out _ _ _ HA9.out⟩
                    case measure => simp [intOf]; omega)
            · have f2 : decide ((q : Int) + (k : Int) < (n : Int)) = false := decide_eq_false k2
              obtain rfl : k = mn := by omega
              have HFI : Hid (∃ u c, Value.slice u' (a + k) c' = .slice u (prR tx n deep.toNat (L.take (i + 1))).length c ∧ Hid (Own wr w1.heap.size 31 2 (.slice u (prR tx n deep.toNat (L.take (i + 1))).length c) (prR tx n deep.toNat (L.take (i + 1))).length (rwF (prR tx n deep.toNat (L.take (i + 1)))))) := by
                rw [HTK.out, chR_len, ← HA.out]
                exact ⟨u', c', rfl, HOk⟩
              clear HTK hmn
              go_wp2
              go_quiet (fail)
              go_wp2
              go_roundw
              case rel => exact ⟨i + 1, by omega, by omega, by go_num, (by obtain ⟨uu, cc, e5, HO5⟩ := HFI.out; exact ⟨uu, cc, e5, HO5.out.kept (fresh_drewN _ _)⟩), below_drewN HBk.out _⟩
              case measure => simp [intOf]; omega
          · have f1 : decide ((k : Int) < deep) = false := decide_eq_false k1
            obtain rfl : k = mn := by omega
            have HFI : Hid (∃ u c, Value.slice u' (a + k) c' = .slice u (prR tx n deep.toNat (L.take (i + 1))).length c ∧ Hid (Own wr w1.heap.size 31 2 (.slice u (prR tx n deep.toNat (L.take (i + 1))).length c) (prR tx n deep.toNat (L.take (i + 1))).length (rwF (prR tx n deep.toNat (L.take (i + 1)))))) := by
              rw [HTK.out, chR_len, ← HA.out]
              exact ⟨u', c', rfl, HOk⟩
            clear HTK hmn
            go_wp2
            go_quiet (fail)
            go_wp2
            go_roundw
            case rel => exact ⟨i + 1, by omega, by omega, by go_num, (by obtain ⟨uu, cc, e5, HO5⟩ := HFI.out; exact ⟨uu, cc, e5, HO5.out.kept (fresh_drewN _ _)⟩), below_drewN HBk.out _⟩
            case measure => simp [intOf]; omega
      · have d2 : decide ((i : Int) < ways) = false := decide_eq_false (by omega)
        obtain rfl : i = ways.toNat := by omega
        rw [← HPO.out] at HO ⊢
        go_wp2
        go_ret
        exact ⟨u, c, rfl, HO.out.weaken HB1.out.size, HBW.out⟩
    · have d1 : decide ((i : Int) < (L.length : Int)) = false := decide_eq_false (by omega)
      have e0 : prR tx n deep.toNat (L.take i) = prO tx most n ways deep := by rw [HPO.out, List.take_of_length_le (by omega), List.take_of_length_le (by omega)]
      rw [e0] at HO ⊢
      clear e0
      go_wp2
      go_ret
      exact ⟨u, c, rfl, HO.out.weaken HB1.out.size, HBW.out⟩
end Go.Proofs.Ytbpldnlafilbbaa
