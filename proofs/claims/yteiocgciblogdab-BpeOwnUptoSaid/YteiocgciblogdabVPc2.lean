import Derived.Test.YteiocgciblogdabVPcs
import Derived.Test.YteiocgciblogdabVLen
import Derived.Deep.RegionHeld3
namespace Go.Proofs.Yteiocgciblogdab
open Go.RowKit
theorem PieceAt.weaken {w : World} {base base' : Nat} {u : Value} {l : List Int} (h : PieceAt w base u l) (k : base' ≤ base) : PieceAt w base' u l := by
  obtain ⟨g, c, e, h1, h2, h3⟩ := h
  refine ⟨g, c, e, h1, h2, fun h0 => ?_⟩
  obtain ⟨b, e, hb, hl, hc⟩ := h3 h0
  exact ⟨b, e, Nat.le_trans k hb, hl, hc⟩
theorem TabAt.weaken {w : World} {base base' : Nat} {d : VD} {v : Value} {n : Nat} {A : Nat → Value} (h : TabAt w base d v n A) (k : base' ≤ base) : TabAt w base' d v n A :=
  ⟨h.own.weaken k, fun t ht => (h.at_ t ht).weaken k, h.off⟩
theorem own_one (w : World) (t : TypeId) (x : Value) (cs : Nat → Value) (h : cs 0 = x) : Own (w.alloc (.cells #[x] t)) w.heap.size t 1 (.slice (some ⟨w.heap.size, 0, none⟩) 1 1) 1 cs := by
  refine ⟨by simp, .inr ⟨w.heap.size, 1, #[x], rfl, Nat.le_refl _, ?_, Nat.le_refl _, by simp [maxLen], by simp, by simp [h]⟩⟩
  exact Go.Deep.blk_alloc_new _ _
theorem two_new (w : World) (o : Obj) (x : Value) (t : TypeId) (k : Nat) (h : k = w.heap.size + 1 := by rfl) : ((w.alloc o).alloc (.cells #[x] t)).cell? ⟨k, 0, none⟩ = some x := by
  subst h; rw [show w.heap.size + 1 = (w.alloc o).heap.size by simp]; exact new_cell _ _ _
theorem tab_start (w : World) (d : VD) (base : Nat) (hb : base ≤ w.heap.size) : TabAt (w.alloc (.cells #[.slice none 0 0] 22)) base d (.slice (some ⟨w.heap.size, 0, none⟩) 1 1) 1 (fun _ => .slice none 0 0) := by
  refine ⟨(own_one w 22 (.slice none 0 0) _ rfl).weaken hb, fun t ht => ?_, fun t ht h0 => ?_⟩
  · obtain rfl : t = 0 := by omega
    rw [d.pc_zero]; exact PieceAt.nil _ _
  · obtain rfl : t = 0 := by omega
    rw [d.pc_zero] at h0; simp at h0
theorem piece_new (w : World) (base : Nat) (hb : base ≤ w.heap.size) (x : Int) (t : TypeId) : PieceAt (w.alloc (.cells #[.int .u8 x] t)) base (.slice (some ⟨w.heap.size, 0, none⟩) 1 1) [x] := by
  refine ⟨_, _, rfl, by simp, by simp [maxLen], fun _ => ⟨_, rfl, hb, by simp, fun j hj => ?_⟩⟩
  obtain rfl : j = 0 := by simpa using hj
  simp
theorem VD.len_pos' (d : VD) {m : Nat} (hc : ∀ j, j < m → d.okPair j) : ∀ t, 1 ≤ t → t < d.nb + 1 + m → 0 < (d.pc t).length := by
  intro t
  induction t using Nat.strongRecOn with
  | _ t ih =>
    intro h1 h2
    by_cases hb : t ≤ d.nb
    · obtain ⟨i, rfl⟩ : ∃ i, t = i + 1 := ⟨t - 1, by omega⟩
      rw [d.pc_base (by omega)]; simp
    · obtain ⟨j, rfl⟩ : ∃ j, t = d.nb + 1 + j := ⟨t - d.nb - 1, by omega⟩
      have ok := hc j (by omega)
      obtain ⟨a1, a2, a3, a4⟩ := ok
      rw [d.pc_pair ⟨a1, a2, a3, a4⟩, List.length_append]
      have := ih (d.P j).toNat (by omega) (by omega) (by omega)
      omega
theorem TabAt.get {w : World} {base : Nat} {d : VD} {v : Value} {n : Nat} {A : Nat → Value} (h : TabAt w base d v n A) (hn : 0 < n) : ∃ g cap, v = .slice (some ⟨g, 0, none⟩) n cap ∧ base ≤ g ∧ g < w.heap.size ∧ ∀ t, t < n → 0 < (d.pc t).length → ∃ b k, base ≤ b ∧ b < w.heap.size ∧ b ≠ g ∧ w.cell? ⟨g, t, none⟩ = some (.slice (some ⟨b, 0, none⟩) (d.pc t).length k) ∧ ∀ j, j < (d.pc t).length → w.cell? ⟨b, j, none⟩ = some (.int .u8 ((d.pc t).getD j 0)) := by
  obtain ⟨ao, cap, rfl, hr⟩ := h.own.rd
  obtain ⟨g, off, rfl, hc⟩ := hr.one hn
  have hoff : off = 0 := by
    rcases h.own.2 with ⟨e, _⟩ | ⟨g', cap', cur, e, _⟩
    · cases e
    · cases e; rfl
  subst hoff
  have hg := h.own.lt g rfl
  refine ⟨g, cap, rfl, hg.1, hg.2, fun t ht h0 => ?_⟩
  obtain ⟨ga, k, e, _, _, h3⟩ := h.at_ t ht
  obtain ⟨b, rfl, hb, hl, hcs⟩ := h3 h0
  have ho := h.off t ht h0 g rfl
  rw [e] at ho
  refine ⟨b, k, hb, hl, fun e => ho (by simp [Value.ownBlock, e]), ?_, hcs⟩
  have := hc t ht
  rw [e] at this
  simpa using this
theorem cat_append {a b : List Int} (j : Nat) (_h : j < a.length + b.length) : cat a.length (fun j => a.getD j 0) (fun j => b.getD j 0) j = (a ++ b).getD j 0 := by
  unfold cat
  by_cases h : j < a.length
  · rw [if_pos h]; simp [List.getD_eq_getElem?_getD, List.getElem?_append, h]
  · rw [if_neg h]; simp [List.getD_eq_getElem?_getD, List.getElem?_append, h]
theorem piece_own {w : World} {base : Nat} {v : Value} {l : List Int} (h : Own w base 5 1 v l.length (fun j => .int .u8 (l.getD j 0))) (h0 : 0 < l.length) : ∃ g k, v = .slice (some ⟨g, 0, none⟩) l.length k ∧ base ≤ g ∧ PieceAt w base v l := by
  obtain ⟨ao, cap, rfl, hr⟩ := h.rd
  obtain ⟨g, off, rfl, hc⟩ := hr.one h0
  have hoff : off = 0 := by
    rcases h.2 with ⟨e, _⟩ | ⟨g', cap', cur, e, _⟩
    · cases e
    · cases e; rfl
  subst hoff
  have hg := h.lt g rfl
  exact ⟨g, cap, rfl, hg.1, _, cap, rfl, hr.le, hr.top, fun _ => ⟨g, rfl, hg.1, hg.2, fun j hj => by simpa using hc j hj⟩⟩
set_option maxRecDepth 20000 in
set_option maxHeartbeats 4000000 in
theorem pieces_go {w : World} {d : VD} {bo po : Option Addr} {cb cp : Nat} (hb : RdA w bo 1 d.nb cb (fun i => .int .u8 (d.B i))) (hp : RdA w po 2 d.np cp (tcs d.P d.Q)) (h1 : d.cnt) (h2 : ∀ i, i < d.nb → d.newB i) (h3 : ∀ j, j < d.np → d.newP j) :
    Calls Try.prog 29 #[.agg #[.slice bo d.nb cb, .slice po d.np cp]] w fun e w' => ((d.Right ∧ ∃ v A, e = .returned v ∧ TabAt w' w.heap.size d v (d.nb + 1 + d.np) A) ∨ (¬ d.Right ∧ e = .returned (.slice none 0 0))) ∧ Below w.heap.size w w' := by
  have n1 := Nat.le_trans hb.le hb.top
  have hf0 := fresh_alloc w (.cells #[.slice bo d.nb cb, .slice po d.np cp] 25)
  have z1 : 1 ≤ d.nb := h1.1
  have z2 : d.nb ≤ 48 := h1.2.1
  have z3 : d.np + d.nb ≤ 63 := h1.2.2
  have E1 := hidd h1
  have E2 := hidd h2
  have E3 := hidd h3
  clear h1 h2 h3
  go_enter Try.func29, Try.ntmps29
  go_wp2_with fail
  have K1 := hidd (show (w.alloc (.cells #[.slice bo d.nb cb, .slice po d.np cp] 25)).cell? ⟨w.heap.size, 0, none⟩ = some (.slice bo d.nb cb) by simp)
  have K2 := hidd (show (w.alloc (.cells #[.slice bo d.nb cb, .slice po d.np cp] 25)).cell? ⟨w.heap.size, 1, none⟩ = some (.slice po d.np cp) by simp)
  have W1 : w.heap.size ≤ (w.alloc (.cells #[.slice bo d.nb cb, .slice po d.np cp] 25)).heap.size := hf0.size
  generalize w.alloc (.cells #[.slice bo d.nb cb, .slice po d.np cp] 25) = w1 at *
  refine (counted_any n1 true ⟨fun _ => E1.out, fun _ => rfl⟩).mono ?_
  rintro e w2 ⟨rfl, hf2⟩
  have hf2' := fresh_trans hf0 hf2
  have k1 := fresh_cell hf2 K1.out
  have k2 := fresh_cell hf2 K2.out
  go_wp2_with fail
  refine (unlikeB_any (hb.fresh hf2') true ⟨fun _ => E2.out, fun _ => rfl⟩).mono ?_
  rintro e w3 ⟨rfl, hw3⟩
  rw [hw3]
  clear hw3
  go_wp2_with fail
  refine (unlikeP_any (hp.fresh hf2') true ⟨fun _ => E3.out, fun _ => rfl⟩).mono ?_
  rintro e w4 ⟨rfl, hf4⟩
  have hfb4 := fresh_trans hf2 hf4
  have k1 := fresh_cell hf4 k1
  have k2 := fresh_cell hf4 k2
  clear hf4 hf2 hf2'
  have k1' := fresh_cell (fresh_alloc w4 (.cells #[.slice none 0 0] 22)) k1
  have k2' := fresh_cell (fresh_alloc w4 (.cells #[.slice none 0 0] 22)) k2
  go_wp2
  have hT := tab_start w4 d w1.heap.size hfb4.size
  have hfb5 := hfb4.alloc hfb4.size (.cells #[.slice none 0 0] 22)
  clear k1 k2 hfb4 k1' k2'
  generalize (w4.alloc (.cells #[.slice none 0 0] 22)) = w5 at *
  go_loopw [3, 28] (fun v i wr => ∃ (m : Nat) (A : Nat → Value), m ≤ d.nb ∧ i = .int .i64 m ∧ TabAt wr w1.heap.size d v (m + 1) A ∧ Below w1.heap.size w1 wr) (fun _ i _ => d.nb - (intOf i).toNat)
  case atStart => exact ⟨0, _, by omega, rfl, hT, hfb5⟩
  case round =>
    clear hT hfb5
    obtain ⟨m, A, hm, rfl, hT, hfb⟩ := hrel
    have hf := fresh_trans hf0 hfb
    have k1 := fresh_cell hfb K1.out
    have k2 := fresh_cell hfb K2.out
    have hsz := hfb.size
    by_cases hlt : m < d.nb
    · obtain ⟨b1, o1, rfl, hc⟩ := (hb.fresh hf).one (by omega)
      have c1 := hc m hlt
      clear hc
      have hP := (piece_new wr w1.heap.size hsz (d.B m) 5).fresh (fresh_alloc _ (.cells #[.slice (some ⟨wr.heap.size, 0, none⟩) 1 1] 22))
      have hT6 := (hT.fresh (fresh_alloc wr (.cells #[.int .u8 (d.B m)] 5))).fresh (fresh_alloc _ (.cells #[.slice (some ⟨wr.heap.size, 0, none⟩) 1 1] 22))
      have hoff := off_new hT.own (Nat.le_refl wr.heap.size) 1 1
      have hfb6 := (hfb.alloc hsz (.cells #[.int .u8 (d.B m)] 5)).alloc (by simp; omega) (.cells #[.slice (some ⟨wr.heap.size, 0, none⟩) 1 1] 22)
      have hO6 : Own _ w1.heap.size 22 1 _ (m + 1) (upd A (m + 1) (.slice (some ⟨wr.heap.size, 0, none⟩) 1 1)) := hT6.own.congr (fun j hj => (upd_lt A _ (by omega)).symm)
      have hnew : Hid (((wr.alloc (.cells #[.int .u8 (d.B m)] 5)).alloc (.cells #[.slice (some ⟨wr.heap.size, 0, none⟩) 1 1] 22)).cell? ⟨wr.heap.size + 1, 0, none⟩ = some (upd A (m + 1) (.slice (some ⟨wr.heap.size, 0, none⟩) 1 1) (m + 1))) := by
        rw [upd_at]; exact two_new _ _ _ _ _
      have h1c : Hid ((upd A (m + 1) (.slice (some ⟨wr.heap.size, 0, none⟩) 1 1) (m + 1)).oneCell' = true) := by rw [upd_at]; exact (rfl : _ = _)
      have HP := hidd hP
      have HT6 := hidd hT6
      have HO6 := hidd hO6
      clear hP hT6 hO6
      go_wp2_with (at_builtin; refine wpList_app1 _ rfl _ _ 38 rfl w1.heap.size 22 (.slice none 0 0) 24 Try.underlying38 infoSB rfl _ (m + 1) (upd A (m + 1) (.slice (some ⟨wr.heap.size, 0, none⟩) 1 1)) rfl HO6.out (wr.heap.size + 1) 1 rfl hnew.out h1c.out (by omega) (by omega) (by simp; omega) ?_)
      intro v' w7 hown' happ
      have hT7 := HT6.out.next (by rw [d.pc_base hlt]; exact HP.out) hoff hown' happ
      have hfb7 := happ.below hfb6 HO6.out (Nat.le_refl _) (by simp; omega)
      clear happ hown' hfb6 c1
      go_wp2
      go_roundw
      case rel => exact ⟨m + 1, _, by omega, by go_num, hT7, hfb7⟩
      case measure => simp [intOf]; omega
    · obtain rfl : m = d.nb := by omega
      go_wp2
      clear k1 k2
      have hT0 : TabAt wr w1.heap.size d _ (d.nb + 1 + 0) A := hT
      clear hT
      go_loopw [3, 41] (fun v i wr => ∃ (m : Nat) (A : Nat → Value), m ≤ d.np ∧ i = .int .i64 m ∧ TabAt wr w1.heap.size d v (d.nb + 1 + m) A ∧ Hid (∀ j, j < m → d.okPair j) ∧ Hid (∀ j, j < m → d.okLen j) ∧ Below w1.heap.size w1 wr) (fun _ i _ => d.np - (intOf i).toNat)
      case atStart => exact ⟨0, A, by omega, rfl, hT0, (fun i hi => absurd hi (by omega)), (fun i hi => absurd hi (by omega)), hfb⟩
      case round =>
        clear hT0 hfb hlt hm hf hsz
        obtain ⟨m, A, hm, rfl, hT, H2, H3, hfb⟩ := hrel
        have hf := fresh_trans hf0 hfb
        have hsz := hfb.size
        obtain ⟨n, en⟩ : ∃ n, n = d.nb + 1 + m := ⟨_, rfl⟩
        rw [← en] at hT
        have EN := hidd en
        have hn0 : 0 < n := by omega
        have hn1 : n ≤ 63 + 1 := by omega
        clear en
        obtain ⟨gA, cA, rfl, hgA, hgl, hG⟩ := hT.get (by omega)
        have HG := hidd hG
        clear hG
        by_cases hlt : m < d.np
        · obtain ⟨b1, o1, rfl, h1⟩ := (hp.fresh hf).two (by omega)
          obtain ⟨c1, s1⟩ := h1 m hlt
          clear h1
          have i1 : (0 : Int) ≤ (m : Int) := Int.natCast_nonneg _
          have i2 : (m : Int) < (d.np : Int) := by omega
          by_cases q1 : d.P m < 1
          · have NR := hidd (show ¬ d.Right from fun h => by have := EN.out; have := (h.ok m hlt).1; omega)
            go_wp2
            all_goals (go_ret; exact ⟨.inr ⟨NR.out, rfl⟩, hf.alloc (Nat.le_trans W1 hsz) _⟩)
          by_cases q2 : d.Q m < 1
          · have NR := hidd (show ¬ d.Right from fun h => by have := EN.out; have := (h.ok m hlt).2.1; omega)
            go_wp2
            all_goals (go_ret; exact ⟨.inr ⟨NR.out, rfl⟩, hf.alloc (Nat.le_trans W1 hsz) _⟩)
          by_cases q3 : (n : Int) ≤ d.P m
          · have NR := hidd (show ¬ d.Right from fun h => by have := EN.out; have := (h.ok m hlt).2.2.1; omega)
            go_wp2
            all_goals (go_ret; exact ⟨.inr ⟨NR.out, rfl⟩, hf.alloc (Nat.le_trans W1 hsz) _⟩)
          by_cases q4 : (n : Int) ≤ d.Q m
          · have NR := hidd (show ¬ d.Right from fun h => by have := EN.out; have := (h.ok m hlt).2.2.2; omega)
            go_wp2
            all_goals (go_ret; exact ⟨.inr ⟨NR.out, rfl⟩, hf.alloc (Nat.le_trans W1 hsz) _⟩)
          have OK : Hid (d.okPair m) := by have := EN.out; exact ⟨by omega, by omega, by omega, by omega⟩
          obtain ⟨p, eP⟩ : ∃ p : Nat, d.P m = (p : Int) := ⟨(d.P m).toNat, by omega⟩
          obtain ⟨q, eQ⟩ : ∃ q : Nat, d.Q m = (q : Int) := ⟨(d.Q m).toNat, by omega⟩
          have lp : p < n := by omega
          have lq : q < n := by omega
          have x1 : (0 : Int) ≤ (p : Int) := Int.natCast_nonneg _
          have x2 : (0 : Int) ≤ (q : Int) := Int.natCast_nonneg _
          have x3 : (p : Int) < (n : Int) := by omega
          have x4 : (q : Int) < (n : Int) := by omega
          have l1 := d.len_le H3.out p (by have := EN.out; omega)
          have l2 := d.len_le H3.out q (by have := EN.out; omega)
          have j1 := d.len_pos' H2.out p (by omega) (by have := EN.out; omega)
          have j2 := d.len_pos' H2.out q (by omega) (by have := EN.out; omega)
          have hL := hidd (show d.pc n = d.pc p ++ d.pc q by rw [EN.out, d.pc_pair OK.out, eP, eQ]; rfl)
          rw [eP] at c1 q1 q3
          rw [eQ] at s1 q2 q4
          clear eP eQ
          obtain ⟨bp, kp, hbp, hbpl, hbpg, cp1, cp2⟩ := HG.out p lp j1
          obtain ⟨bq, kq, hbq, hbql, hbqg, cq1, cq2⟩ := HG.out q lq j2
          have CP2 := hidd cp2
          have CQ2 := hidd cq2
          clear cp2 cq2
          have hfA := fresh_alloc wr (.cells #[.int .i64 (p : Int), .int .i64 (q : Int)] 48)
          have cp1' := fresh_cell hfA cp1
          have cq1' := fresh_cell hfA cq1
          have pa : (wr.alloc (.cells #[.int .i64 (p : Int), .int .i64 (q : Int)] 48)).cell? ⟨wr.heap.size, 0, none⟩ = some (.int .i64 (p : Int)) := by simp
          have pb : (wr.alloc (.cells #[.int .i64 (p : Int), .int .i64 (q : Int)] 48)).cell? ⟨wr.heap.size, 1, none⟩ = some (.int .i64 (q : Int)) := by simp
          have CP3 := hidd (fun j hj => fresh_cell hfA (CP2.out j hj))
          have CQ3 := hidd (fun j hj => fresh_cell hfA (CQ2.out j hj))
          have hTA := hT.fresh hfA
          have hfbA := fresh_trans hfb hfA
          clear hT
          go_wp2
          all_goals
            generalize (wr.alloc (.cells #[.int .i64 (p : Int), .int .i64 (q : Int)] 48)) = wA at *
            have hd1 : Below wA.heap.size wA (wA.alloc (.cells #[.slice (some ⟨bp, 0, none⟩) (d.pc p).length kp, .slice (some ⟨bq, 0, none⟩) (d.pc q).length kq] 22)).drew := (fresh_alloc wA _).drew
            have hK : Hid (Calls Try.prog 40 #[.slice (some ⟨wA.heap.size, 0, none⟩) 2 2] (wA.alloc (.cells #[.slice (some ⟨bp, 0, none⟩) (d.pc p).length kp, .slice (some ⟨bq, 0, none⟩) (d.pc q).length kq] 22)).drew fun e w'' => ∃ v, e = .returned v ∧ Own w'' wA.heap.size 5 1 v ((d.pc p).length + (d.pc q).length) (fun j => .int .u8 (cat (d.pc p).length (fun j => (d.pc p).getD j 0) (fun j => (d.pc q).getD j 0) j)) ∧ Below wA.heap.size wA w'') := by
              refine (concat_two (f0 := fun j => (d.pc p).getD j 0) (f1 := fun j => (d.pc q).getD j 0) (k0 := kp) (k1 := kq) (by simp) (by simp) (fun j hj => fresh_cell hd1 (CP3.out j hj)) (fun j hj => fresh_cell hd1 (CQ3.out j hj)) j1 j2 l1 l2).mono ?_
              rintro e w'' ⟨v, rfl, ho, hf⟩
              exact ⟨v, rfl, ho.weaken hd1.size, fresh_trans hd1 hf⟩
            have hd0 : Below wA.heap.size wA wA.drew := (Below.refl _ _).drew
            have hS : Hid (∀ w', Below wA.heap.size wA w' → Below wA.heap.size wA w' ∧ w'.cell? ⟨wr.heap.size, 0, none⟩ = some (.int .i64 (p : Int)) ∧ w'.cell? ⟨wr.heap.size, 1, none⟩ = some (.int .i64 (q : Int)) ∧ w'.cell? ⟨gA, p, none⟩ = some (.slice (some ⟨bp, 0, none⟩) (d.pc p).length kp) ∧ w'.cell? ⟨gA, q, none⟩ = some (.slice (some ⟨bq, 0, none⟩) (d.pc q).length kq)) := fun w' h => ⟨h, fresh_cell h pa, fresh_cell h pb, fresh_cell h cp1', fresh_cell h cq1'⟩
            go_region_held3 (fun w' => Below wA.heap.size wA w' ∧ w'.cell? ⟨wr.heap.size, 0, none⟩ = some (.int .i64 (p : Int)) ∧ w'.cell? ⟨wr.heap.size, 1, none⟩ = some (.int .i64 (q : Int)) ∧ w'.cell? ⟨gA, p, none⟩ = some (.slice (some ⟨bp, 0, none⟩) (d.pc p).length kp) ∧ w'.cell? ⟨gA, q, none⟩ = some (.slice (some ⟨bq, 0, none⟩) (d.pc q).length kq))
              (first
                | (with_reducible refine hS.out _ ?_; with_reducible exact hd0)
                | (with_reducible refine hS.out _ ?_; with_reducible exact hf9)
                | (with_reducible refine hS.out _ ?_; with_reducible exact hd1)
                | go_keep)
              ((go_at_call 40; have hc := hK.out; with_reducible refine hc.mono ?_; clear hc; rintro e w9 ⟨v9, rfl, hown9, hf9⟩))
            all_goals
              have hown8 : Own w9 wA.heap.size 5 1 v9 (d.pc n).length (fun j => .int .u8 ((d.pc n).getD j 0)) := by
                rw [hL.out, List.length_append]
                exact hown9.congr (fun j hj => by rw [cat_append j (by omega)])
              have hlen0 : (d.pc n).length = (d.pc p).length + (d.pc q).length := by rw [hL.out, List.length_append]
              obtain ⟨g9, k9, rfl, hg9, hP9⟩ := piece_own hown8 (by omega)
              have hle9 : (d.pc n).length ≤ 32 := by omega
              clear hlen0
              have HP9 := hidd hP9
              have hT9 := hTA.fresh hf9
              have hoff := off_new hTA.own hg9 (d.pc n).length k9
              have hfb9 := fresh_trans hfbA hf9
              have hsz9 := hfb9.size
              clear hown9 hown8 hP9 hd0 hd1 hS hK pa pb cp1' cq1' cp1 cq1 c1 s1
              by_cases hlen : (d.pc n).length ≤ 16
              · have OL : Hid (d.okLen m) := by show (d.pc (d.nb + 1 + m)).length ≤ 16; rw [← EN.out]; exact hlen
                have hT10 := hT9.fresh (fresh_alloc w9 (.cells #[.slice (some ⟨g9, 0, none⟩) (d.pc n).length k9] 22))
                have HP10 := hidd (HP9.out.fresh (fresh_alloc w9 (.cells #[.slice (some ⟨g9, 0, none⟩) (d.pc n).length k9] 22)))
                have hfb10 := hfb9.alloc hsz9 (.cells #[.slice (some ⟨g9, 0, none⟩) (d.pc n).length k9] 22)
                have HO10 : Hid (Own _ w1.heap.size 22 1 _ n (upd A n (.slice (some ⟨g9, 0, none⟩) (d.pc n).length k9))) := hT10.own.congr (fun j hj => (upd_lt A _ (by omega)).symm)
                have hnew : Hid ((w9.alloc (.cells #[.slice (some ⟨g9, 0, none⟩) (d.pc n).length k9] 22)).cell? ⟨w9.heap.size, 0, none⟩ = some (upd A n (.slice (some ⟨g9, 0, none⟩) (d.pc n).length k9) n)) := by
                  rw [upd_at]; exact new_cell _ _ _
                have h1c : Hid ((upd A n (.slice (some ⟨g9, 0, none⟩) (d.pc n).length k9) n).oneCell' = true) := by rw [upd_at]; exact (rfl : _ = _)
                have HT10 := hidd hT10
                clear hT10 hT9 hTA
                go_wp2_with (at_builtin; refine wpList_app1 _ rfl _ _ 38 rfl w1.heap.size 22 (.slice none 0 0) 24 Try.underlying38 infoSB rfl _ n (upd A n (.slice (some ⟨g9, 0, none⟩) (d.pc n).length k9)) rfl HO10.out w9.heap.size 1 rfl hnew.out h1c.out (by omega) (by omega) (by simp; omega) ?_)
                intro v' w11 hown' happ
                have hT11 := HT10.out.next (HP10.out.weaken (by have := hfbA.size; omega)) hoff hown' happ
                have hfb11 := happ.below hfb10 HO10.out (Nat.le_refl _) (by simp; omega)
                clear happ hown' hfb10 hfb9
                go_wp2
                go_roundw
                case rel => exact ⟨m + 1, _, by omega, by go_num, by have e : n + 1 = d.nb + 1 + (m + 1) := by have := EN.out; omega
                                                                     rw [← e]; exact hT11, (fun j hj => if h : j = m then h ▸ OK.out else H2.out j (by omega)), (fun j hj => if h : j = m then h ▸ OL.out else H3.out j (by omega)), hfb11⟩
                case measure => simp [intOf]; omega
              · have NR := hidd (show ¬ d.Right from fun h => by have := h.len m hlt; unfold VD.okLen at this; rw [← EN.out] at this; omega)
                have hf12 := fresh_trans hf0 hfb9
                go_wp2
                go_ret
                exact ⟨.inr ⟨NR.out, rfl⟩, hf12⟩
        · obtain rfl : m = d.np := by omega
          have hR : Hid d.Right := ⟨E1.out, E2.out, E3.out, H2.out, H3.out⟩
          go_wp2
          go_ret
          exact ⟨.inl ⟨hR.out, _, A, rfl, EN.out ▸ hT.weaken W1⟩, hf⟩
end Go.Proofs.Yteiocgciblogdab
