import Derived.Test.YtaalinlggjimcaaKO4
import Derived.Test.YtaalinlggjimcaaKO5
import Derived.Test.YtaalinlggjimcaaKN4
import Derived.Test.YtaalinlggjimcaaKN5
namespace Go.Proofs.Ytaalinlggjimcaa
open Go.RowKit
/-! PrefixLists. -/
theorem WoM.more {Z : Nat → Prop} {w wr : World} {wd bd : Nat} {v : Value} {m : Nat} {l : Nat → Nat} (h : WoM Z w wr wd bd v m l) : WoM Z w wr wd (bd + 1) v m l := by
  obtain ⟨f, ⟨r, E, K, mk⟩ | ⟨X, lab, L, N, num, y, mine, E, K, e1, e2, st, h3, mk⟩⟩ := h
  · exact ⟨f, .inl ⟨r, E, K, mk⟩⟩
  · exact ⟨f, .inr ⟨X, lab, L, N, num, y, mine, E, K, e1, e2, ⟨st.ps, st.rs, st.ws, st.inv.more⟩, h3, mk⟩⟩
theorem WoM.up {Z : Nat → Prop} {w wr : World} {wd bd : Nat} {v : Value} {m : Nat} {l : Nat → Nat} (h : WoM Z w wr wd bd v m l) : ∀ j, WoM Z w wr wd (bd + j) v m l
  | 0 => h
  | j + 1 => (h.up j).more
/-- what the loop keeps -/
def LI (w : World) (so : Option Addr) (n cap wd : Nat) (q : Nat) (a : Act) (wr : World) : Prop := ∃ (i m : Nat) (v : Value) (l : Nat → Nat), q + i = n ∧ m ≤ i ∧ LF so n cap wd v i a ∧ (∀ z, v.ownBlock = some z → w.heap.size ≤ z) ∧ WoM (fun _ => True) w wr wd (5 * i) v m l
set_option maxRecDepth 100000 in
set_option maxHeartbeats 3200000 in
/-- a round of another kind -/
theorem round_other {w wr : World} {b off n cap wd : Nat} {v : Value} {m : Nat} {l : Nat → Nat} {i : Nat} {s : Sc} (a : Act) (ha : LF (some ⟨b, off, none⟩) n cap wd v i a) (hs : ScAt w (some ⟨b, off, none⟩) n cap s) (hc : ∀ i, i < n → wr.cell? ⟨b, off + i * 5, none⟩ = some (.int .i64 (s.KD i)) ∧ wr.cell? ⟨b, off + i * 5 + 1, none⟩ = some (.int .i64 (s.WH i)) ∧ wr.cell? ⟨b, off + i * 5 + 2, none⟩ = some (.slice (s.TO i) (s.TL i) (s.TC i)) ∧ wr.cell? ⟨b, off + i * 5 + 3, none⟩ = some (.slice (s.BO i) (s.BL i) (s.BC i)) ∧ wr.cell? ⟨b, off + i * 5 + 4, none⟩ = some (.int .i64 (s.NN i)))
    (hi : i < n) (hn : n ≤ 2147483647) (hT : s.TL i ≤ 2147483647) (hB : s.BL i ≤ 2147483647) (hW : WoM (fun _ => True) w wr wd (5 * i) v m l) (hkd : ¬ (s.KD i = 4 ∨ s.KD i = 5))
    (Q : Exit → Act → World → Prop) (R : Act → World → Prop) (hR : ∀ a' w', LF (some ⟨b, off, none⟩) n cap wd v (i + 1) a' → WoM (fun _ => True) w w' wd (5 * (i + 1)) v m l → R a' w') :
    roundC.wp Try.prog (Exit.then R Q) a wr := by
  dsimp only [roundC, Try.f7, Option.getD, rgt, lft, inb, inl]
  obtain ⟨u, e2, e7, e10, e11, rfl⟩ := ha
  rw [e2, e7, e10, e11]
  clear e2 e7 e10 e11
  obtain ⟨d0, d1, d2, d3, d4⟩ := hc i hi
  have i0 : (0 : Int) ≤ (i : Int) := by omega
  have i1 : (i : Int) < (n : Int) := by omega
  have k6 : (s.KD i != 4) = true := by simp; omega
  have k7 : (s.KD i != 5) = true := by simp; omega
  have HST := hidd (wom_step (hW.fresh (fresh_alloc wr (.cells #[.int .i64 (s.KD i), .int .i64 (s.WH i), .slice (s.TO i) (s.TL i) (s.TC i), .slice (s.BO i) (s.BL i) (s.BC i), .int .i64 (s.NN i)] 56))) (by omega) hs hi hT hB (s.WH i) (fun _ _ _ => trivial))
  clear hc hW hkd
  go_wp2_with (fail)
  refine HST.out.mono ?_
  rintro e w5 ⟨rfl, W5⟩
  have HW5 : Hid (WoM (fun _ => True) w w5 wd (5 * (i + 1)) v m l) := W5.up 4
  clear W5 HST
  go_wp2
  exact hR _ _ (LF.of rfl rfl rfl rfl (by first | rfl | simp)) HW5.out
set_option maxRecDepth 100000 in
set_option maxHeartbeats 3200000 in
theorem round_all {w : World} {so : Option Addr} {n cap wd : Nat} {s : Sc} (hs : ScAt w so n cap s) (hn : n ≤ 2147483647) (hT : ∀ i, i < n → s.TL i ≤ 2147483647 ∧ s.BL i ≤ 2147483647) (Q : Exit → Act → World → Prop) (hQ : ∀ a' w' v', LF so n cap wd v' n a' → Below w.heap.size w w' → Q (.exit 0) a' w') (q : Nat) (a : Act) (wr : World) (h : LI w so n cap wd q a wr) :
    roundC.wp Try.prog (Exit.then (fun a' w' => ∃ q', q = q' + 1 ∧ LI w so n cap wd q' a' w') Q) a wr := by
  obtain ⟨i, m, v, l, hqi, hm, ha, hv, hW⟩ := h
  by_cases hlt : i < n
  · obtain ⟨b, off, rfl, hc⟩ := hs.cells hW.1 (by omega)
    have ht := hT i hlt
    have fin : ∀ a' w' v' m' l', LF (some ⟨b, off, none⟩) n cap wd v' (i + 1) a' → m' ≤ i + 1 → (∀ z, v'.ownBlock = some z → w.heap.size ≤ z) → WoM (fun _ => True) w w' wd (5 * (i + 1)) v' m' l' → ∃ q', q = q' + 1 ∧ LI w (some ⟨b, off, none⟩) n cap wd q' a' w' := fun a' w' v' m' l' h1 h2 h3 h4 => ⟨q - 1, by omega, i + 1, m', v', l', by omega, h2, h1, h3, h4⟩
    have hOw : 0 < s.TL i → ∀ b o, s.TO i = some ⟨b, o, none⟩ → b < w.heap.size := fun h0 b o e => by
      obtain ⟨b1, o1, e1, hc1⟩ := (hs.tk i hlt).at_ h0
      rw [e] at e1
      injection e1 with e1
      injection e1 with e1
      subst e1
      exact lt_of_cell (hc1 0 (by omega))
    by_cases hkd : s.KD i = 4 ∨ s.KD i = 5
    · obtain ⟨d0, d1, d2, d3, d4⟩ := hc i hlt
      obtain ⟨f, ⟨r, E, K, mk⟩ | ⟨X, lab, L, N, num, y, mine, E, K, rfl, eZ, st, h3, mk⟩⟩ := hW
      · rcases hkd with e | e
        · rw [e] at d0
          exact round_nil4 a ha d0 d1 d2 d3 d4 hlt hn ((hs.tk i hlt).fresh f) ht.1 ((hs.bk i hlt).fresh f) ht.2 hOw r mk hv f hm Q _ fin
        · rw [e] at d0
          exact round_nil5 a ha d0 d1 d2 d3 d4 hlt hn ((hs.tk i hlt).fresh f) ht.1 ((hs.bk i hlt).fresh f) ht.2 hOw r mk hv f hm Q _ fin
      · have op : ∀ {ao : Option Addr} {T c : Nat} {t : Nat → Int}, RdA w ao 1 T c (fun j => .int .i64 (t j)) → (∀ j, j < T → fits (t j)) → T ≤ 2147483647 → OpAt wr lab ao T c t := fun {ao T c t} hrd hfit hT => ⟨hrd.fresh f, hfit, fun h0 b o e => by
          obtain ⟨b1, o1, e1, hc⟩ := hrd.at_ h0
          rw [e] at e1
          injection e1 with e1
          injection e1 with e1 _
          subst e1
          have := lt_of_cell (hc 0 (by omega))
          exact Classical.not_not.1 (fun q => by have := h3 b q; omega), hT⟩
        have hZ : X.Z 0 := by rw [eZ]; trivial
        have fin2 : ∀ a' w' v' m' l', LF (some ⟨b, off, none⟩) n cap X.wd v' (i + 1) a' → m' ≤ i + 1 → (∀ z, v'.ownBlock = some z → w.heap.size ≤ z) → WoM X.Z w w' X.wd (5 * (i + 1)) v' m' l' → ∃ q', q = q' + 1 ∧ LI w (some ⟨b, off, none⟩) n cap X.wd q' a' w' := fun a' w' v' m' l' h1 h2 h3 h4 => fin a' w' v' m' l' h1 h2 h3 (by rw [eZ] at h4; exact h4)
        rcases hkd with e | e
        · rw [e] at d0
          exact round_real4 a ha d0 d1 d2 d3 d4 hlt hn (op (hs.tk i hlt) (hs.tf i hlt) ht.1) (op (hs.bk i hlt) (hs.bf i hlt) ht.2) hOw st h3 mk hv f hm hZ Q _ fin2
        · rw [e] at d0
          exact round_real5 a ha d0 d1 d2 d3 d4 hlt hn (op (hs.tk i hlt) (hs.tf i hlt) ht.1) (op (hs.bk i hlt) (hs.bf i hlt) ht.2) hOw st h3 mk hv f hm hZ Q _ fin2
    · exact round_other a ha hs hc hlt hn ht.1 ht.2 hW hkd Q _ (fun a' w' h1 h2 => fin a' w' v m l h1 (by omega) hv h2)
  · obtain rfl : i = n := by omega
    have hcap := hs.rd.le
    have htop := hs.rd.top
    unfold maxLen at htop
    dsimp only [roundC, Try.f7, Option.getD, rgt, lft, inb, inl]
    obtain ⟨u, e2, e7, e10, e11, rfl⟩ := ha
    rw [e2, e7, e10, e11]
    clear e2 e7 e10 e11
    have HB := hidd hW.1
    clear hW hs
    go_wp2
    exact hQ _ _ _ (LF.of rfl rfl rfl rfl rfl) HB.out
set_option maxRecDepth 100000 in
set_option maxHeartbeats 3200000 in
theorem lists_law {w : World} (B S : Int) {so : Option Addr} {n cap : Nat} {s : Sc} (hs : ScAt w so n cap s) : Calls Try.prog 7 #[.int .i64 B, .int .i64 S, .slice so n cap] w fun e w' => e = .returned (.bool true) ∧ Below w.heap.size w w' := by
  have HBG := hidd (begun_any (fun _ => True) w B S)
  have HWK : Hid (∀ w1, Calls Try.prog 9 #[] w1 fun e w' => e = .returned (.bool true) ∧ Below w1.heap.size w1 w') := fun w1 => works_any w1
  have HLG : Hid (∀ w2, Below w.heap.size w w2 → Calls Try.prog 27 #[.slice so n cap] w2 (LongP n s w2)) := fun w2 f => long_any ⟨hs.rd.fresh f, fun i hi => (hs.tk i hi).fresh f, fun i hi => (hs.bk i hi).fresh f, hs.tf, hs.bf, hs.sz⟩
  have HS := hidd hs
  clear hs
  go_enter Try.func7, Try.ntmps7
  go_wp2_with (fail)
  refine HBG.out.mono ?_
  rintro e w1 ⟨wd, rfl, W1⟩
  have HW1 := hidd W1
  clear W1 HBG
  go_wp2_with (fail)
  refine (HWK.out w1).mono ?_
  rintro e w2 ⟨rfl, f2⟩
  have HW2 := hidd (HW1.out.fresh f2)
  clear HW1
  go_wp2_with (fail)
  refine (HLG.out w2 HW2.out.1).mono ?_
  rintro e w3 ⟨r, rfl, hr, f3⟩
  have HW3 := hidd (HW2.out.fresh f3)
  have HR := hidd hr
  clear HW2 HLG hr f2 f3
  cases r with
  | true =>
    go_wp2
    go_ret
    exact ⟨rfl, HW3.out.1⟩
  | false =>
    have hn : n ≤ 2147483647 := (HR.out rfl).1
    have HT := hidd (HR.out rfl).2
    clear HR
    go_wp2_with (fail)
    refine loop_invP (c := roundC) (LI w so n cap wd) n ⟨0, 0, .slice none 0 0, fun _ => 0, by omega, Nat.le_refl _, LF.of rfl rfl rfl rfl rfl, fun z hz => by simp [Value.ownBlock] at hz, WoM.of HW3.out _⟩ (fun q a wr h => round_all HS.out hn HT.out _ ?_ q a wr h)
    rintro a' w' v' ⟨u, e2, e7, e10, e11, rfl⟩ hb
    have HB := hidd hb
    clear hb
    rw [e2, e7, e10, e11]
    clear e2 e7 e10 e11
    go_wp2
    go_ret
    exact ⟨rfl, HB.out⟩
end Go.Proofs.Ytaalinlggjimcaa
