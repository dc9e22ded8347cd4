import Derived.Test.YteiocgciblogdabVBkI
import Derived.BigGuard
import Derived.Deep.DeepCutAuto
namespace Go.Proofs.Yteiocgciblogdab
open Go.RowKit
/-! The book's apart, walked. -/
def mkc (i : Nat) (c : Int) : Int := (3 * (i : Int) + c) % 256
def fst (i _q : Nat) : Value := .int .u8 (mkc i 1)
def snd (n : Nat → Nat) (i q : Nat) : Value := .int .u8 (if q < n i then mkc i 1 else mkc i 2)
def pen1 (V : Nat → Nat → Int) (k t : Nat) : Nat → Nat → Int := fun i q => if i < k ∨ (i = k ∧ q < t) then mkc i 1 else V i q
set_option maxRecDepth 20000 in
set_option maxHeartbeats 8000000 in
theorem bapart_any {w : World} {base g m : Nat} {vL vZ : Value} {A : Nat → Value} {n : Nat → Nat} {V : Nat → Nat → Int} (h : PenR w base g m vL vZ A n V) (hm : m ≤ 1000) (hn : ∀ i, i < m → n i ≤ 1073741824) (hbase : base ≤ w.heap.size) :
    Calls Try.prog 19 #[.pointer (some ⟨g, 0, none⟩)] w fun e w' => e = .returned (.bool true) ∧ Chg w w' (fun b => b = g ∨ ∃ i, i < m ∧ (A i).ownBlock = some b) := by
  obtain ⟨lo, lc, rfl, _⟩ := h.L.rd
  have H := hidd h
  have HN := hidd hn
  clear h hn
  go_enter Try.func19, Try.ntmps19
  go_wp2
  go_loopw [3] (fun iv wr => ∃ k : Nat, k ≤ m ∧ iv = .int .i64 k ∧ Hid (PenR wr base g m (.slice lo m lc) vZ A n (pen1 V k 0) ∧ Chg w wr (fun b => b = g ∨ ∃ i, i < m ∧ (A i).ownBlock = some b))) (fun iv _ => m - (intOf iv).toNat)
  case atStart => exact ⟨0, by omega, rfl, ⟨H.out.row, H.out.low, H.out.L, fun i hi => (H.out.a i hi).congr (fun q _ => by simp [pen1]), H.out.offL, H.out.apart⟩, Chg.of_below _ (Below.refl _ _)⟩
  case round =>
    obtain ⟨k, hk, rfl, HP⟩ := hrel
    have e0 : wr.cell? ⟨g, 0, none⟩ = some (.slice lo m lc) := HP.out.1.row.cell (i := 0) (by decide)
    by_cases hlt : k < m
    · have hnk := HN.out k hlt
      obtain ⟨ao, ca, eA, _⟩ := (H.out.a k hlt).rd
      have EA := hidd eA
      clear eA
      obtain ⟨N, EN⟩ : ∃ N, Hid (N = n k) := ⟨_, rfl⟩
      rw [← EN.out] at hnk
      go_wp2
      clear e0
      go_loopw [4] (fun jv wx => ∃ t : Nat, t ≤ N ∧ jv = .int .i64 t ∧ Hid (PenR wx base g m (.slice lo m lc) vZ A n (pen1 V k t) ∧ Chg w wx (fun b => b = g ∨ ∃ i, i < m ∧ (A i).ownBlock = some b))) (fun jv _ => N - (intOf jv).toNat)
      case atStart => exact ⟨0, by omega, rfl, HP⟩
      case round =>
        clear HP
        obtain ⟨t, ht, rfl, HP⟩ := hrel
        have e0 : wr.cell? ⟨g, 0, none⟩ = some (.slice lo m lc) := HP.out.1.row.cell (i := 0) (by decide)
        obtain ⟨gL, oL, eL, hL⟩ := HP.out.1.L.rda.one (by omega)
        have d1 := hL k hlt
        rw [EA.out, ← EN.out] at d1
        clear hL
        subst eL
        have i1 : (0 : Int) ≤ (k : Int) := Int.natCast_nonneg _
        have i2 : (k : Int) < (m : Int) := by omega
        by_cases hlt2 : t < N
        · have hoA := HP.out.1.a k hlt
          rw [EA.out, ← EN.out] at hoA
          obtain ⟨gA, cA, eA2, _, _, _, _⟩ := own_some hoA (by omega)
          cases eA2
          obtain ⟨b3, o3, e3, h3⟩ := hoA.rda.one (by omega)
          cases e3
          have d2 := h3 t hlt2
          have f2 := hoA.froz
          have i3 : (0 : Int) ≤ (t : Int) := Int.natCast_nonneg _
          have i4 : (t : Int) < (N : Int) := by omega
          rw [Nat.zero_add] at d2
          have HQ : Hid (PenR (wr.setCell ⟨gA, t, none⟩ (.int .u8 ((3 * (k : Int) + 1) % 256))) base g m (.slice (some ⟨gL, oL, none⟩) m lc) vZ A n (pen1 V k (t + 1)) ∧ Chg w (wr.setCell ⟨gA, t, none⟩ (.int .u8 ((3 * (k : Int) + 1) % 256))) (fun b => b = g ∨ ∃ i, i < m ∧ (A i).ownBlock = some b)) := by
            refine ⟨HP.out.1.pen (V' := pen1 V k (t + 1)) hlt (EA.out) _ (fun j _ hj => ?_) (fun r _ => ?_), HP.out.2.trans (Chg.of_set wr gA t _) (fun x _ e => .inr ⟨k, hlt, by rw [EA.out, e]; rfl⟩)⟩
            · funext q
              simp [pen1, hj]
            · unfold pen1
              by_cases hr : r = t
              · rw [if_pos (.inr ⟨rfl, by omega⟩), if_pos hr]; rfl
              · rw [if_neg hr]
                by_cases h2 : r < t
                · rw [if_pos (.inr ⟨rfl, by omega⟩), if_pos (.inr ⟨rfl, h2⟩)]
                · rw [if_neg (by omega), if_neg (by omega)]
          clear h3 hoA HP
          go_wp2
          go_roundw
          case rel => exact ⟨t + 1, by omega, by go_num, HQ⟩
          case measure => simp [intOf]; omega
        · have HQ : Hid (PenR wr base g m (.slice (some ⟨gL, oL, none⟩) m lc) vZ A n (pen1 V (k + 1) 0) ∧ Chg w wr (fun b => b = g ∨ ∃ i, i < m ∧ (A i).ownBlock = some b)) := by
            refine ⟨⟨HP.out.1.row, HP.out.1.low, HP.out.1.L, fun i hi => (HP.out.1.a i hi).congr (fun q hq => ?_), HP.out.1.offL, HP.out.1.apart⟩, HP.out.2⟩
            have e := EN.out
            by_cases hik : i = k
            · subst hik
              simp only [pen1]
              rw [if_pos (.inr ⟨trivial, by omega⟩), if_pos (.inl (by omega))]
            · simp only [pen1]
              by_cases h2 : i < k
              · rw [if_pos (.inl h2), if_pos (.inl (by omega))]
              · rw [if_neg (by omega), if_neg (by omega)]
          clear HP
          go_wp2
          go_roundw
          case rel => exact ⟨k + 1, by omega, by go_num, HQ⟩
          case measure => simp [intOf]; omega
    · obtain rfl : k = m := by omega
      have HG : Hid (GrowR wr base g k 0 0 (.slice lo k lc) (.slice none 0 0) vZ A (fun _ => .slice none 0 0) n fst (snd n) ∧ Chg w wr (fun b => b = g ∨ ∃ i, i < k ∧ (A i).ownBlock = some b)) := by
        refine ⟨⟨HP.out.1.row, HP.out.1.low, HP.out.1.L, own_nil _ _ _ _ _, fun i _ hi => (HP.out.1.a i hi).congr (fun q _ => ?_), (fun i hi => absurd hi (by omega)), (fun i hi => absurd hi (by omega)), fun i hi x hx => (HP.out.1.a i hi).lt x hx, (off_nil _).symm, HP.out.1.offL, (fun i hi => absurd hi (by omega)), fun i _ => off_nil _, (fun i hi => absurd hi (by omega)), HP.out.1.apart, (fun i j hi => absurd hi (by omega))⟩, HP.out.2⟩
        show Value.int .u8 (pen1 V k 0 i q) = _
        unfold pen1
        rw [if_pos (.inl hi)]
        rfl
      clear HP
      go_wp2
      clear e0
      go_loopw [5] (fun iv wx => ∃ (q : Nat) (vW : Value) (B : Nat → Value), q ≤ k ∧ iv = .int .i64 q ∧ Hid (GrowR wx base g k q q (.slice lo k lc) vW vZ A B n fst (snd n) ∧ (∀ x, vW.ownBlock = some x → w.heap.size ≤ x) ∧ Chg w wx (fun b => b = g ∨ ∃ i, i < k ∧ (A i).ownBlock = some b))) (fun iv _ => k - (intOf iv).toNat)
      case atStart => exact ⟨0, _, _, by omega, rfl, HG.out.1, (fun x hx => by simp [Value.ownBlock] at hx), HG.out.2⟩
      case round =>
        clear HG
        obtain ⟨q, vW, B, hq, rfl, HG⟩ := hrel
        have e0 : wr.cell? ⟨g, 0, none⟩ = some (.slice lo k lc) := HG.out.1.row.cell (i := 0) (by decide)
        by_cases hlt : q < k
        · obtain ⟨gL, oL, eL, hL⟩ := HG.out.1.L.rda.one (by omega)
          have d1 := hL q hlt
          clear hL
          subst eL
          obtain ⟨ao, ca, eA, _⟩ := (HG.out.1.a q (Nat.le_refl _) hlt).rd
          rw [eA] at d1
          have i1 : (0 : Int) ≤ (q : Int) := Int.natCast_nonneg _
          have i2 : (q : Int) < (k : Int) := by omega
          have hnq := HN.out q hlt
          have HI := hidd (GI.start (w0 := w) HG.out.1 hlt (fun j hj => by simp [fst, snd, hj]) HG.out.2.2.low.size)
          rw [eA] at HI
          have HWn := hidd HG.out.2.1
          have HCg := hidd HG.out.2.2
          clear eA HG
          go_wp2
          clear e0 d1
          go_loopw [6, 7] (fun v iv wx => ∃ t : Nat, t ≤ 70 ∧ iv = .int .i64 t ∧ Hid (GI w wx base g k q (.slice (some ⟨gL, oL, none⟩) k lc) vW vZ A B n fst (snd n) v t ∧ Chg w wx (fun b => b = g ∨ ∃ i, i < k ∧ (A i).ownBlock = some b))) (fun _ iv _ => 70 - (intOf iv).toNat)
          case atStart => exact ⟨0, by omega, rfl, HI.out, HCg.out⟩
          case round =>
            clear HI HCg
            obtain ⟨t, ht, rfl, HI⟩ := hrel
            by_cases hlt2 : t < 70
            · obtain ⟨av, cv, ev, _⟩ := HI.out.1.own.rd
              subst ev
              have hbz := HI.out.1.G.row.lt
              have hbs : base ≤ wr.heap.size := by have := HI.out.1.sz; omega
              have HK := hidd (fun (ob : Obj) => HI.out.1.kept (fresh_alloc wr ob))
              have EN : Hid (∀ j, j < 1 * 1 → (wr.alloc (.cells #[.int .u8 ((3 * (q : Int) + 2) % 256)] 5)).cell? ⟨wr.heap.size, j, none⟩ = some (snd n q ((n q + t) * 1 + j))) := fun j hj => by
                obtain rfl : j = 0 := by omega
                rw [new_cell]
                simp [snd, mkc]
                intro h
                omega
              go_wp2_with (at_builtin; refine wpList_appX _ rfl _ _ 22 rfl base 5 (.int .u8 0) 1 1 Try.underlying22 infoB rfl (by decide) _ (n q + t) (snd n q) rfl (HK.out _).own _ 1 1 rfl EN.out (fun _ _ => rfl) (by decide) (by unfold maxLen; omega) (by omega) (by simp; omega) ?_)
              intro v' w6 hown happ hx
              have HQ := hidd (show GI w w6 base g k q (.slice (some ⟨gL, oL, none⟩) k lc) vW vZ A B n fst (snd n) v' (t + 1) ∧ Chg w w6 (fun b => b = g ∨ ∃ i, i < k ∧ (A i).ownBlock = some b) from ⟨(HK.out _).next hown happ (by simpa using hx), (HI.out.2.trans (Chg.of_below (fun _ => False) (fresh_alloc wr (.cells #[.int .u8 ((3 * (q : Int) + 2) % 256)] 5))) (fun _ _ t => t.elim)).trans (Chg.of_app happ) (fun x hx1 e => .inr ⟨q, hlt, HI.out.1.old x e hx1⟩)⟩)
              clear hown happ hx HK EN HI
              go_wp2
              go_roundw
              case rel => exact ⟨t + 1, by omega, by go_num, HQ⟩
              case measure => simp [intOf]; omega
            · obtain rfl : t = 70 := by omega
              obtain ⟨av, cv, ev, _⟩ := HI.out.1.own.rd
              subst ev
              obtain ⟨wo, wc, ew, _⟩ := HI.out.1.G.W.rd
              subst ew
              have e1 : wr.cell? ⟨g, 1, none⟩ = some (.slice wo q wc) := HI.out.1.G.row.cell (i := 1) (by decide)
              have hbs : base ≤ wr.heap.size := by have := HI.out.1.sz; omega
              have fA := fresh_alloc wr (.cells #[.slice av (n q + 70) cv] 22)
              have HK := hidd (HI.out.1.kept fA)
              have HO : Hid (Own (wr.alloc (.cells #[.slice av (n q + 70) cv] 22)) base 22 1 (.slice wo q wc) q (upd B q (.slice av (n q + 70) cv))) := HK.out.G.W.congr (fun j hj => (upd_lt B (.slice av (n q + 70) cv) (by omega : j < q)).symm)
              have hnew : Hid ((wr.alloc (.cells #[.slice av (n q + 70) cv] 22)).cell? ⟨wr.heap.size, 0, none⟩ = some (upd B q (.slice av (n q + 70) cv) q)) := by show _ = _; rw [new_cell, upd_at]
              have hone : Hid ((upd B q (.slice av (n q + 70) cv) q).oneCell' = true) := by show _ = true; rw [upd_at]; rfl
              go_wp2_with (at_builtin; refine wpList_app1 _ rfl _ _ 38 rfl base 22 (.slice none 0 0) 24 Try.underlying38 infoSBt rfl _ q (upd B q (.slice av (n q + 70) cv)) rfl HO.out _ 1 rfl hnew.out hone.out (by omega) (by omega) (by simp; omega) ?_)
              intro vW' w6 hown happ
              have hne : some g ≠ (Value.slice wo q wc).ownBlock := fun e => by have := (HK.out.G.W.lt g e.symm).1; have := HK.out.G.low; omega
              have r6 := HK.out.G.row.of_block (happ.grown.block g HK.out.G.row.lt hne)
              have e6 : w6.cell? ⟨g, 1, none⟩ = some (.slice wo q wc) := r6.cell (i := 1) (by decide)
              have f6 := r6.frozen
              have hz := HI.out.1.sz
              have HQ := hidd (show GrowR (w6.setCell ⟨g, 1, none⟩ vW') base g k (q + 1) (q + 1) (.slice (some ⟨gL, oL, none⟩) k lc) vW' vZ A (upd B q (.slice av (n q + 70) cv)) n fst (snd n) ∧ (∀ x, vW'.ownBlock = some x → w.heap.size ≤ x) ∧ Chg w (w6.setCell ⟨g, 1, none⟩ vW') (fun b => b = g ∨ ∃ i, i < k ∧ (A i).ownBlock = some b) from by
                refine ⟨HK.out.G.addW HK.out.own HK.out.rd hlt HK.out.o1.symm HK.out.o2.symm HK.out.o3 hown happ, fun x hx => ?_, ((HI.out.2.trans (Chg.of_below (fun _ => False) fA) (fun _ _ t => t.elim)).trans (Chg.of_app happ) (fun x hx1 e => ?_)).trans (Chg.of_set w6 g 1 vW') (fun x _ e => .inl e)⟩
                · rcases happ.blk x hx with e | e
                  · exact HWn.out x e
                  · simp at e; omega
                · have := HWn.out x e; omega)
              obtain ⟨wo', wc', ew', _⟩ := hown.rd
              subst ew'
              clear hown happ hne r6 HK HI HO hnew hone fA e1 HWn
              go_wp2
              go_roundw
              case rel => exact ⟨q + 1, _, _, by omega, by go_num, HQ⟩
              case measure => simp [intOf]; omega
        · obtain rfl : q = k := by omega
          have HC9 := hidd HG.out.2.2
          have e1 : ∃ wo wc, wr.cell? ⟨g, 1, none⟩ = some (.slice wo q wc) ∧ RdA wr wo 1 q wc B := by
            obtain ⟨wo, wc, ew, rw⟩ := HG.out.1.W.rd
            exact ⟨wo, wc, by rw [← ew]; exact HG.out.1.row.cell (i := 1) (by decide), rw⟩
          obtain ⟨wo, wc, e1, rW⟩ := e1
          have RL := hidd HG.out.1.L.rda
          have RW := hidd rW
          have RA := hidd HG.out.1.r
          have RB := hidd HG.out.1.b
          clear HG rW
          go_wp2
          go_loopw [8] (fun iv wx => ∃ i : Nat, i ≤ q ∧ iv = .int .i64 i ∧ wx = wr) (fun iv _ => q - (intOf iv).toNat)
          case atStart => exact ⟨0, by omega, rfl, rfl⟩
          case round =>
            obtain ⟨i, hi, rfl, rfl⟩ := hrel
            by_cases hil : i < q
            · obtain ⟨gL, oL, eL, hL⟩ := RL.out.one (by omega)
              have d1 := hL i hil
              obtain ⟨gW, oW, eW, hW⟩ := RW.out.one (by omega)
              have d2 := hW i hil
              clear hL hW
              subst eL eW
              obtain ⟨aA, cA, eA, rA⟩ := RA.out i hil
              obtain ⟨aB, cB, eB, rB⟩ := (RB.out i hil).rd
              rw [eA] at d1
              rw [eB] at d2
              have hni := HN.out i hil
              generalize hM : n i = M at *
              have HRA := hidd rA
              have HRB := hidd rB
              clear eA eB rA rB
              have i1 : (0 : Int) ≤ (i : Int) := Int.natCast_nonneg _
              have i2 : (i : Int) < (q : Int) := by omega
              go_wp2
              go_loopw [9] (fun jv wx => ∃ j : Nat, j ≤ M + 70 ∧ jv = .int .i64 j ∧ wx = wr) (fun jv _ => M + 70 - (intOf jv).toNat)
              case atStart => exact ⟨0, by omega, rfl, rfl⟩
              case round =>
                obtain ⟨j, hj, rfl, rfl⟩ := hrel
                by_cases hjl : j < M + 70
                · obtain ⟨gB, oB, eB2, hB⟩ := HRB.out.one (by omega)
                  have d4 := hB j hjl
                  subst eB2
                  clear hB
                  have j1 : (0 : Int) ≤ (j : Int) := Int.natCast_nonneg _
                  have j2 : (j : Int) < ((M + 70 : Nat) : Int) := by omega
                  by_cases hjn : j < M
                  · obtain ⟨gA, oA, eA2, hA⟩ := HRA.out.one (by omega)
                    have d3 : wr.cell? ⟨gA, oA + j, none⟩ = some (.int .u8 ((3 * (i : Int) + 1) % 256)) := hA j hjn
                    subst eA2
                    clear hA
                    have d5 : wr.cell? ⟨gB, oB + j, none⟩ = some (.int .u8 ((3 * (i : Int) + 1) % 256)) := by rw [d4]; simp [snd, mkc, hM, hjn]
                    clear d4
                    have j3 : (j : Int) < (M : Int) := by omega
                    go_upto_region 23 with fail
                    simp only [List.append_eq, List.cons_append, List.nil_append]
                    go_wp2
                    go_roundw
                    case rel => exact ⟨j + 1, by omega, by go_num, trivial⟩
                    case measure => simp [intOf]; omega
                  · have d5 : wr.cell? ⟨gB, oB + j, none⟩ = some (.int .u8 ((3 * (i : Int) + 2) % 256)) := by rw [d4]; simp [snd, mkc, hM, hjn]
                    clear d4
                    have j3 : (M : Int) ≤ (j : Int) := by omega
                    have t1 : decide ((j : Int) < (M : Int)) = false := by simp; omega
                    have t2 : decide ((M : Int) ≤ (j : Int)) = true := by simp; omega
                    have t5 : decide (j < M) = false := by simp; omega
                    have t6 : decide (M ≤ j) = true := by simp; omega
                    clear hjn
                    go_upto_region 23 with fail
                    simp only [List.append_eq, List.cons_append, List.nil_append]
                    go_wp2
                    go_roundw
                    case rel => exact ⟨j + 1, by omega, by go_num, trivial⟩
                    case measure => simp [intOf]; omega
                · go_wp2
                  go_roundw
                  case rel => exact ⟨i + 1, by omega, by go_num, trivial⟩
                  case measure => simp [intOf]; omega
            · go_wp2
              go_ret
              exact ⟨rfl, HC9.out⟩
end Go.Proofs.Yteiocgciblogdab
