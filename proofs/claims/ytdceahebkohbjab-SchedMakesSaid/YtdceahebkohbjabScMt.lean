import Derived.Test.YtdceahebkohbjabScMs
namespace Go.Proofs.Ytdceahebkohbjab
open Go.RowKit
theorem five_other (w : World) (b k : Nat) (a0 a1 a2 a3 a4 : Value) (x : Nat) (h : x ≠ b) : (((((w.setCell ⟨b, k * 5, none⟩ a0).setCell ⟨b, k * 5 + 1, none⟩ a1).setCell ⟨b, k * 5 + 2, none⟩ a2).setCell ⟨b, k * 5 + 3, none⟩ a3).setCell ⟨b, k * 5 + 4, none⟩ a4).heap[x]? = w.heap[x]? := by
  rw [Go.Deep.blk_setCell_other _ _ _ _ h, Go.Deep.blk_setCell_other _ _ _ _ h, Go.Deep.blk_setCell_other _ _ _ _ h, Go.Deep.blk_setCell_other _ _ _ _ h, Go.Deep.blk_setCell_other _ _ _ _ h]
/-- one seat is written, whatever it is -/
theorem Msd.put {w wr : World} {S X : Nat → Se} {n k c : Nat} (h : Msd w wr w.heap.size S X n k c) (s : Se) : Msd w (((((wr.setCell ⟨w.heap.size, k * 5, none⟩ (.int .i64 s.id)).setCell ⟨w.heap.size, k * 5 + 1, none⟩ (.int .i64 s.kn)).setCell ⟨w.heap.size, k * 5 + 2, none⟩ (.int .i64 s.ca)).setCell ⟨w.heap.size, k * 5 + 3, none⟩ (.int .i64 s.wa)).setCell ⟨w.heap.size, k * 5 + 4, none⟩ (.slice s.ho s.hn s.hc)) w.heap.size S (updS X k s) n k c :=
  ⟨seat_set h.row k s, ((((h.low.setCell (Nat.le_refl _) _).setCell (Nat.le_refl _) _).setCell (Nat.le_refl _) _).setCell (Nat.le_refl _) _).setCell (Nat.le_refl _) _, fun i hi hn => (by
    have := h.held (fun x hx _ => five_other wr w.heap.size k (.int .i64 s.id) (.int .i64 s.kn) (.int .i64 s.ca) (.int .i64 s.wa) (.slice s.ho s.hn s.hc) x hx) i hi hn
    unfold updS
    rw [if_neg (by omega)]
    exact this), fun i hi hn => by
    unfold updS
    rw [if_neg (by omega)]
    exact h.hout i hi hn⟩
theorem updS_at (X : Nat → Se) (k : Nat) (s : Se) : updS X k s k = s := if_pos rfl
theorem updS_updS (X : Nat → Se) (k : Nat) (s t : Se) : updS (updS X k s) k t = updS X k t := by
  funext i
  unfold updS
  split <;> rfl
/-- a mark more -/
theorem Msd.mark {w wr : World} {S X : Nat → Se} {n k c : Nat} (h : Msd w wr w.heap.size S (updS X k mkZ) n k c) (hk : n ≤ k) : Msd w wr w.heap.size S (updS X k mkZ) n (k + 1) c :=
  ⟨h.row, h.low, fun i hi hn => h.hin i (by omega) hn, fun i hi hn => (by
    by_cases e : i = k
    · rw [e, updS_at]
    · exact h.hout i (by omega) hn)⟩
/-- a seat more -/
theorem Msd.more {w wr : World} {S X : Nat → Se} {n k c : Nat} (h : Msd w wr w.heap.size S (updS X k (S k)) n k c) (hk : k < n) {b : Nat} (hb : wr.rowIs b 3 ((S k).hn + 64) (fun j => .int .i64 (mkd (S k).H (S k).hn j))) : Msd w (wr.setCell ⟨w.heap.size, k * 5 + 4, none⟩ (.slice (some ⟨b, 0, none⟩) (S k).hn ((S k).hn + 64))) w.heap.size S (updS X k { S k with ho := some ⟨b, 0, none⟩, hc := (S k).hn + 64 }) n (k + 1) c := by
  have h1 := seat_held h.row k (some ⟨b, 0, none⟩) (S k).hn ((S k).hn + 64)
  rw [updS_at, updS_updS] at h1
  have hoth : ∀ x, x ≠ w.heap.size → x < wr.heap.size → (wr.setCell ⟨w.heap.size, k * 5 + 4, none⟩ (.slice (some ⟨b, 0, none⟩) (S k).hn ((S k).hn + 64))).heap[x]? = wr.heap[x]? := fun x hx _ => Go.Deep.blk_setCell_other _ _ _ _ hx
  refine ⟨h1, h.low.setCell (Nat.le_refl _) _, fun i hi hn => ?_, fun i hi hn => ?_⟩
  · by_cases e : i = k
    · subst e
      rw [updS_at]
      have hne : b ≠ w.heap.size := fun q => (by subst q; exact absurd (type_apart h.row hb) (by decide))
      exact ⟨rfl, b, rfl, rfl, hb.of_block (hoth b hne hb.lt)⟩
    · have := h.held hoth i (by omega) hn
      unfold updS at this ⊢
      rw [if_neg e] at this ⊢
      exact this
  · have := h.hout i (by omega) hn
    unfold updS at this ⊢
    rw [if_neg (by omega)] at this ⊢
    exact this
set_option maxRecDepth 100000 in
set_option maxHeartbeats 4000000 in
theorem mkSeats_any {w : World} {ao : Option Addr} {n cap : Nat} {S : Nat → Se} (h : SeA w ao n cap S) (hn : n * 56 ≤ 140737488351232) (hh : ∀ i, i < n → (S i).hn ≤ 17592186043904) :
    Calls Try.prog 18 #[.slice ao n cap] w fun e w' => ∃ X, e = .returned (.slice (some ⟨w.heap.size, 0, none⟩) n (n + 64)) ∧ Msd w w' w.heap.size S X n (n + 64) (n + 64) := by
  obtain ⟨c, hc⟩ : ∃ c, c = n + 64 := ⟨_, rfl⟩
  have e1 : (n : Int) + 64 = (c : Int) := by omega
  have hmk := run_make_seats c (by omega)
  have R0 := hidd (made5 w c 32)
  have F0 := hidd (fresh_alloc w (.cells (madeCells #[.int .i64 0, .int .i64 0, .int .i64 0, .int .i64 0, .slice none 0 0] (c * 5)) 32))
  have HS := hidd h
  have HHH := hidd hh
  have hcn : n ≤ c := by omega
  have hcb : c ≤ 2513169434912 := by omega
  rw [← hc]
  clear hc h hh
  go_enter Try.func18, Try.ntmps18
  go_wp2
  clear hmk
  go_loopw [4] (fun i wr => ∃ (k : Nat) (X : Nat → Se), k ≤ c ∧ i = .int .i64 k ∧ Hid (Msd w wr w.heap.size S X n k c)) (fun i _ => c - (intOf i).toNat)
  case atStart => exact ⟨0, fun _ => seZ, by omega, rfl, ⟨R0.out, F0.out, fun i hi => absurd hi (by omega), fun i hi => absurd hi (by omega)⟩⟩
  case round =>
    clear R0 F0
    obtain ⟨k, X, hk, rfl, HM⟩ := hrel
    by_cases hlt : k < c
    · have k0 : (0 : Int) ≤ (k : Int) := by omega
      have k1 : (k : Int) < (c : Int) := by omega
      have c0 := HM.out.row.cell (i := k * 5) (by omega)
      have c1 := HM.out.row.cell (i := k * 5 + 1) (by omega)
      have c2 := HM.out.row.cell (i := k * 5 + 2) (by omega)
      have c3 := HM.out.row.cell (i := k * 5 + 3) (by omega)
      have c4 := HM.out.row.cell (i := k * 5 + 4) (by omega)
      have fz := HM.out.row.frozen
      have HM1 : Hid (Msd w (((((wr.setCell ⟨w.heap.size, k * 5, none⟩ (.int .i64 (-123456))).setCell ⟨w.heap.size, k * 5 + 1, none⟩ (.int .i64 0)).setCell ⟨w.heap.size, k * 5 + 2, none⟩ (.int .i64 0)).setCell ⟨w.heap.size, k * 5 + 3, none⟩ (.int .i64 0)).setCell ⟨w.heap.size, k * 5 + 4, none⟩ (.slice none 0 0)) w.heap.size S (updS X k mkZ) n k c) := HM.out.put mkZ
      go_upto_region 6 with fail
      clear c0 c1 c2 c3 c4 fz HM
      generalize ((((wr.setCell ⟨w.heap.size, k * 5, none⟩ (.int .i64 (-123456))).setCell ⟨w.heap.size, k * 5 + 1, none⟩ (.int .i64 0)).setCell ⟨w.heap.size, k * 5 + 2, none⟩ (.int .i64 0)).setCell ⟨w.heap.size, k * 5 + 3, none⟩ (.int .i64 0)).setCell ⟨w.heap.size, k * 5 + 4, none⟩ (.slice none 0 0) = w1 at *
      by_cases hkn : k < n
      · have hd : decide ((k : Int) < (n : Int)) = true := by simp; omega
        have k2 : (k : Int) < (n : Int) := by omega
        have c0 := HM1.out.row.cell (i := k * 5) (by omega)
        have c1 := HM1.out.row.cell (i := k * 5 + 1) (by omega)
        have c2 := HM1.out.row.cell (i := k * 5 + 2) (by omega)
        have c3 := HM1.out.row.cell (i := k * 5 + 3) (by omega)
        have c4 := HM1.out.row.cell (i := k * 5 + 4) (by omega)
        have fz := HM1.out.row.frozen
        obtain ⟨b1, o1, rfl, h1⟩ := (HS.out.fresh HM1.out.low).rd.seat (by omega)
        obtain ⟨x0, x1, x2, x3, x4⟩ := h1 k hkn
        clear h1
        have HM2 : Hid (Msd w (((((w1.setCell ⟨w.heap.size, k * 5, none⟩ (.int .i64 (S k).id)).setCell ⟨w.heap.size, k * 5 + 1, none⟩ (.int .i64 (S k).kn)).setCell ⟨w.heap.size, k * 5 + 2, none⟩ (.int .i64 (S k).ca)).setCell ⟨w.heap.size, k * 5 + 3, none⟩ (.int .i64 (S k).wa)).setCell ⟨w.heap.size, k * 5 + 4, none⟩ (.slice (S k).ho (S k).hn (S k).hc)) w.heap.size S (updS X k (S k)) n k c) := by
          have := HM1.out.put (S k)
          rw [updS_updS] at this
          exact this
        go_upto_region 8 with fail
        clear c0 c1 c2 c3 c4 fz x0 x1 x2 x3 x4 HM1
        generalize ((((w1.setCell ⟨w.heap.size, k * 5, none⟩ (.int .i64 (S k).id)).setCell ⟨w.heap.size, k * 5 + 1, none⟩ (.int .i64 (S k).kn)).setCell ⟨w.heap.size, k * 5 + 2, none⟩ (.int .i64 (S k).ca)).setCell ⟨w.heap.size, k * 5 + 3, none⟩ (.int .i64 (S k).wa)).setCell ⟨w.heap.size, k * 5 + 4, none⟩ (.slice (S k).ho (S k).hn (S k).hc) = w2 at *
        obtain ⟨b2, o2, e2, h2⟩ := (HS.out.fresh HM2.out.low).rd.seat (by omega)
        cases e2
        obtain ⟨_, _, _, _, x4⟩ := h2 k hkn
        clear h2
        have HMK := hidd (marked_any ((HS.out.fresh HM2.out.low).hd k hkn) (HHH.out k hkn))
        have HMM : Hid (∀ (w3 : World) (b : Nat), w3.rowIs b 3 ((S k).hn + 64) (fun j => .int .i64 (mkd (S k).H (S k).hn j)) → Below w2.heap.size w2 w3 → Msd w (w3.setCell ⟨w.heap.size, k * 5 + 4, none⟩ (.slice (some ⟨b, 0, none⟩) (S k).hn ((S k).hn + 64))) w.heap.size S (updS X k { S k with ho := some ⟨b, 0, none⟩, hc := (S k).hn + 64 }) n (k + 1) c) := fun w3 b hb hf => (HM2.out.fresh hf).more hkn hb
        generalize (S k).hn = zn at *
        generalize (S k).hc = zc at *
        generalize (S k).ho = zo at *
        go_wp2_with (go_at_call 19; with_reducible refine HMK.out.mono ?_; rintro e w3 ⟨rfl, hr3, hb3⟩; have g4 := ((HM2.out.fresh hb3).row).cell (i := k * 5 + 4) (by omega); have gf := ((HM2.out.fresh hb3).row).frozen)
        have HM3 := hidd (HMM.out w3 _ hr3 hb3)
        clear hr3 hb3 g4 gf HMM HMK HM2 x4
        go_roundw
        case rel => exact ⟨k + 1, _, by omega, by go_num, HM3⟩
        case measure => simp [intOf]; omega
      · have hd : decide ((k : Int) < (n : Int)) = false := by simp; omega
        have HM2 := hidd (HM1.out.mark (by omega))
        clear HM1
        go_wp2
        go_roundw
        case rel => exact ⟨k + 1, _, by omega, by go_num, HM2⟩
        case measure => simp [intOf]; omega
    · obtain rfl : c = k := by omega
      have n0 : (0 : Int) ≤ (n : Int) := by omega
      have n1 : (n : Int) ≤ (c : Int) := by omega
      go_wp2
      go_ret
      exact ⟨X, rfl, HM.out⟩
end Go.Proofs.Ytdceahebkohbjab
