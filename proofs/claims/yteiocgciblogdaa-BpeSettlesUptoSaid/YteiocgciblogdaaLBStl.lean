import Derived.Test.YteiocgciblogdaaVCut
import Derived.Test.YteiocgciblogdaaVStr
import Derived.Test.YteiocgciblogdaaVLiv
import Derived.Test.YteiocgciblogdaaVBulk
import Derived.Deep.RegionHeld3
import Derived.Deep.DeepCutAuto
namespace Go.Proofs.Yteiocgciblogdaa
open Go.RowKit
/-! BpeSettles. -/
def Sv (w1 : World) (g0 : Nat) (x y : Value) (w' : World) : Prop := Below w1.heap.size w1 w' ∧ w'.cell? ⟨g0, 0, none⟩ = some x ∧ w'.cell? ⟨g0, 1, none⟩ = some y
theorem sv_next {w1 wa wb : World} {g : Nat} {x y : Value} (h : Below w1.heap.size w1 wa ∧ wa.cell? ⟨g, 0, none⟩ = some x ∧ wa.cell? ⟨g, 1, none⟩ = some y) (f : Below wa.heap.size wa wb) : Below w1.heap.size w1 wb ∧ wb.cell? ⟨g, 0, none⟩ = some x ∧ wb.cell? ⟨g, 1, none⟩ = some y :=
  ⟨fresh_trans h.1 f, fresh_cell f h.2.1, fresh_cell f h.2.2⟩
theorem sv_set {w1 wa : World} {g0 g j : Nat} {x y u : Value} (h : Below w1.heap.size w1 wa ∧ wa.cell? ⟨g0, 0, none⟩ = some x ∧ wa.cell? ⟨g0, 1, none⟩ = some y) (hg : w1.heap.size ≤ g) (h0 : g0 < w1.heap.size) :
    Below w1.heap.size w1 (wa.setCell ⟨g, j, none⟩ u) ∧ (wa.setCell ⟨g, j, none⟩ u).cell? ⟨g0, 0, none⟩ = some x ∧ (wa.setCell ⟨g, j, none⟩ u).cell? ⟨g0, 1, none⟩ = some y := by
  have e : (wa.setCell ⟨g, j, none⟩ u).heap[g0]? = wa.heap[g0]? := Below.heap_setCell _ _ _ _ (by show g0 ≠ g; omega)
  exact ⟨h.1.setCell hg _, by rw [World.cell?_of_block e]; exact h.2.1, by rw [World.cell?_of_block e]; exact h.2.2⟩
theorem sv_set2 {w1 wa : World} {g0 g : Nat} {x y u v : Value} (h : Below w1.heap.size w1 wa ∧ wa.cell? ⟨g0, 0, none⟩ = some x ∧ wa.cell? ⟨g0, 1, none⟩ = some y) (hg : w1.heap.size ≤ g) (h0 : g0 < w1.heap.size) :
    Below w1.heap.size w1 ((wa.setCell ⟨g, 0, none⟩ u).setCell ⟨g, 1, none⟩ v) ∧ ((wa.setCell ⟨g, 0, none⟩ u).setCell ⟨g, 1, none⟩ v).cell? ⟨g0, 0, none⟩ = some x ∧ ((wa.setCell ⟨g, 0, none⟩ u).setCell ⟨g, 1, none⟩ v).cell? ⟨g0, 1, none⟩ = some y :=
  sv_set (sv_set h hg h0) hg h0
theorem Own.set {w : World} {base : Nat} {e : TypeId} {sz : Nat} {v : Value} {n : Nat} {cs : Nat → Value} (h : Own w base e sz v n cs) {g j : Nat} {x : Value} (hg : v.ownBlock ≠ some g) : Own (w.setCell ⟨g, j, none⟩ x) base e sz v n cs := by
  refine ⟨h.1, ?_⟩
  rcases h.2 with hn | ⟨k, cap, cur, rfl, hb, hgg, rest⟩
  · exact .inl hn
  · refine .inr ⟨k, cap, cur, rfl, hb, ?_, rest⟩
    have hk : k ≠ g := fun e => hg (by simp [Value.ownBlock, e])
    rw [Below.heap_setCell _ _ _ _ hk]; exact hgg
/-- a vocabulary in a box of its own -/
structure VBox (wr wx : World) (d : VD) (k g : Nat) (ab ap : Option Addr) (kb kp : Nat) : Prop where
  row : wx.rowIs g 25 2 (two (.slice ab d.nb kb) (.slice ap k kp))
  rb : RdA wx ab 1 d.nb kb (fun i => .int .u8 (d.B i))
  rp : RdA wx ap 2 k kp (tcs d.P d.Q)
  low : Below wr.heap.size wr wx
theorem vbox_alloc {wr w : World} {d : VD} {k base : Nat} {ab ap : Option Addr} {kb kp : Nat} (low : Below wr.heap.size wr w) (ob : Own w base 5 1 (.slice ab d.nb kb) d.nb (fun i => .int .u8 (d.B i))) (op : Own w base 45 2 (.slice ap k kp) k (tcs d.P d.Q)) :
    VBox wr (w.alloc (.cells #[.slice ab d.nb kb, .slice ap k kp] 25)) d k w.heap.size ab ap kb kp :=
  ⟨row2_new _ _ _ _, (Own.rda ob).fresh (fresh_alloc _ _), (Own.rda op).fresh (fresh_alloc _ _), fresh_trans low (fresh_alloc _ _)⟩
def VBlk (w : World) (g : Nat) : Prop := w.rowIs g 25 2 (two (.slice none 0 0) (.slice none 0 0))
theorem vblk_new {X w' : World} (f : Below (X.alloc (.cells #[.slice none 0 0, .slice none 0 0] 25)).heap.size (X.alloc (.cells #[.slice none 0 0, .slice none 0 0] 25)) w') : VBlk w' X.heap.size := by
  have r := row2_new X 25 (.slice none 0 0) (.slice none 0 0)
  exact r.of_block (f.block _ r.lt)
theorem vblk_cells {w : World} {g : Nat} (h : VBlk w g) : w.cell? ⟨g, 0, none⟩ = some (.slice none 0 0) ∧ w.cell? ⟨g, 1, none⟩ = some (.slice none 0 0) ∧ ∀ j, w.frozen? ⟨g, j, none⟩ = false := ⟨(row2 h).1, (row2 h).2, World.rowIs.frozen h⟩
theorem with_vblk {w w' : World} {g : Nat} {G : Prop} (f : Below w.heap.size w w') (h : VBlk w g) (k : VBlk w' g → G) : G := k (World.rowIs.of_block h (f.block _ (World.rowIs.lt h)))
theorem vbox_set {wr w : World} {d : VD} {k base g : Nat} {ab ap : Option Addr} {kb kp : Nat} (low : Below wr.heap.size wr w) (hb : VBlk w g) (big : wr.heap.size ≤ g) (hg : g < base) (ob : Own w base 5 1 (.slice ab d.nb kb) d.nb (fun i => .int .u8 (d.B i))) (op : Own w base 45 2 (.slice ap k kp) k (tcs d.P d.Q)) :
    VBox wr ((w.setCell ⟨g, 0, none⟩ (.slice ab d.nb kb)).setCell ⟨g, 1, none⟩ (.slice ap k kp)) d k g ab ap kb kp := by
  have n1 : (Value.slice ab d.nb kb).ownBlock ≠ some g := fun h => by have := (ob.lt _ h).1; omega
  have n2 : (Value.slice ap k kp).ownBlock ≠ some g := fun h => by have := (op.lt _ h).1; omega
  exact ⟨(World.rowIs.set ((World.rowIs.set hb 0 (.slice ab d.nb kb)).congr two_set0) 1 (.slice ap k kp)).congr two_set1, Own.rda ((ob.set n1).set n1), Own.rda ((op.set n2).set n2), (low.setCell big _).setCell big _⟩
theorem cpv_cut {w : World} {d : VD} {k : Nat} {bo po : Option Addr} {cb cp : Nat} (hb : RdA w bo 1 d.nb cb (fun i => .int .u8 (d.B i))) (hp : RdA w po 2 k cp (tcs d.P d.Q)) (n1 : d.nb ≤ 140737488351232) (n2 : k ≤ 8796093021952) :
    Calls Try.prog 21 #[.agg #[.slice bo d.nb cb, .slice po k cp]] w fun e w' => ∃ ab kb ap kp, e = .returned (.agg #[.slice ab d.nb kb, .slice ap k kp]) ∧ Own w' w.heap.size 5 1 (.slice ab d.nb kb) d.nb (fun i => .int .u8 (d.B i)) ∧ Own w' w.heap.size 45 2 (.slice ap k kp) k (tcs d.P d.Q) ∧ Below w.heap.size w w' := by
  refine (copyV_any (d := d.cut k) hb hp n1 n2).mono ?_
  rintro e w' ⟨v, u, rfl, ob, op, _, hf⟩
  obtain ⟨ab, kb, rfl, _⟩ := ob.rd
  obtain ⟨ap, kp, rfl, _⟩ := op.rd
  exact ⟨ab, kb, ap, kp, rfl, ob, op, hf⟩
theorem penc_cut {w : World} {d : VD} {k : Nat} {bo po ao : Option Addr} {cb cp n ca : Nat} {X : Nat → Int} (hb : RdA w bo 1 d.nb cb (fun i => .int .u8 (d.B i))) (hp : RdA w po 2 k cp (tcs d.P d.Q)) (hB : ∀ i, i < d.nb → 0 ≤ d.B i ∧ d.B i ≤ 255)
    (ha : RdA w ao 1 n ca (fun i => .int .u8 (X i))) (hX : ∀ i, i < n → 0 ≤ X i ∧ X i ≤ 255) (hn : n ≤ 1048576) (hR : d.Right) (hok : ∀ i, i < n → d.tok (X i) ≠ 0) (hk : k ≤ d.np) {M : Nat} (hM : M = (d.encL (d.first X n) k).length) :
    Calls Try.prog 20 #[.agg #[.slice bo d.nb cb, .slice po k cp], .slice ao n ca] w fun e w' => ∃ a c, e = .returned (.tuple #[.slice a M c, .int .i64 0]) ∧ RdA w' a 1 M c (fun j => .int .i64 ((d.encL (d.first X n) k).getD j 0)) ∧ Below w.heap.size w w' := by
  refine (penc_any (d := d.cut k) hb hp hB ha hX hn 0 _ (VD.cut_out hR hok hk)).mono ?_
  rintro e w' ⟨v, rfl, hO, hf⟩
  obtain ⟨a, c, rfl, rd⟩ := hO.get
  subst hM
  exact ⟨a, c, rfl, rd, hf⟩
theorem copyB_rd {w : World} {ao : Option Addr} {n ca : Nat} {f : Nat → Int} (ha : RdA w ao 1 n ca (fun i => .int .u8 (f i))) (hn : n ≤ 140737488351232) :
    Calls Try.prog 22 #[.slice ao n ca] w fun e w' => ∃ a c, e = .returned (.slice a n c) ∧ RdA w' a 1 n c (fun j => .int .u8 (f j)) ∧ Below w.heap.size w w' := by
  refine (copyB_any ha hn).mono ?_
  rintro e w' ⟨v, rfl, ho, hf⟩
  obtain ⟨a, c, rfl, r⟩ := ho.rd
  exact ⟨a, c, rfl, r, hf⟩
theorem rjoin_cut {w : World} {d : VD} (hR : d.Right) {bo po ao : Option Addr} {cb cp ca : Nat} (hp : RdA w po 2 d.np cp (tcs d.P d.Q)) (L : List Int) (hL : L.length ≤ 1048576) {k M N : Nat} (hk : k ≤ d.np) (hM : M = (d.encL L k).length) (hN : N = (d.encL L d.np).length)
    (ha : RdA w ao 1 M ca (fun j => .int .i64 ((d.encL L k).getD j 0))) :
    Calls Try.prog 25 #[.agg #[.slice bo d.nb cb, .slice po d.np cp], .slice ao M ca] w fun e w' => ∃ a c, e = .returned (.slice a N c) ∧ RdA w' a 1 N c (fun j => .int .i64 ((d.encL L d.np).getD j 0)) ∧ Below w.heap.size w w' := by
  subst hM hN
  exact rjoin_any hR hp L hL k hk ha
set_option maxRecDepth 20000 in
set_option maxHeartbeats 8000000 in
theorem settles_walk {w : World} {d : VD} {bo po ao : Option Addr} {cb cp n ca : Nat} {X : Nat → Int} (hb : RdA w bo 1 d.nb cb (fun i => .int .u8 (d.B i))) (hp : RdA w po 2 d.np cp (tcs d.P d.Q)) (hB : ∀ i, i < d.nb → 0 ≤ d.B i ∧ d.B i ≤ 255)
    (ha : RdA w ao 1 n ca (fun i => .int .u8 (X i))) (hX : ∀ i, i < n → 0 ≤ X i ∧ X i ≤ 255) (keep : Int) (hn : n ≤ 1048576) (n1 : d.nb ≤ 1048576) (n2 : d.np ≤ 1048576) :
    Calls Try.prog 6 #[.agg #[.slice bo d.nb cb, .slice po d.np cp], .slice ao n ca, .int .i64 keep] w fun e w' => e = .returned (.bool true) ∧ Below w.heap.size w w' := by
  obtain ⟨x, l, hx⟩ := d.encOut_some X n
  have HX := hidd hx
  have HB := hidd hB
  have HXb := hidd hX
  clear hx hB hX
  have hf0 := fresh_alloc w (.cells #[.slice bo d.nb cb, .slice po d.np cp] 25)
  have r0 := row2_new w 25 (.slice bo d.nb cb) (.slice po d.np cp)
  go_enter Try.func6, Try.ntmps6
  go_wp2_with fail
  generalize w.alloc (.cells #[.slice bo d.nb cb, .slice po d.np cp] 25) = w1 at *
  refine (lives_any w1).mono ?_
  rintro e w2 ⟨rfl, hf2⟩
  have hF2 := fresh_trans hf0 hf2
  have r2 := r0.of_block (hf2.block _ r0.lt)
  clear r0 hf0 hf2
  obtain ⟨x0, x1⟩ := row2 r2
  go_wp2_with fail
  clear x0 x1
  refine (copyV_any (hb.fresh hF2) (hp.fresh hF2) (by omega) (by omega)).mono ?_
  rintro e w5 ⟨vb, vp, rfl, ob, op, _, hf5⟩
  obtain ⟨ab5, kb5, rfl, rb⟩ := ob.rd
  obtain ⟨ap5, kp5, rfl, rp⟩ := op.rd
  have hF5 := fresh_trans hF2 hf5
  have r5 := r2.of_block (hf5.block _ r2.lt)
  clear ob op r2 hf5 hF2
  go_wp2_with fail
  refine (copyB_any (ha.fresh hF5) (by omega)).mono ?_
  rintro e w6 ⟨vt, rfl, ot, hf6⟩
  obtain ⟨at6, kt6, rfl, rt⟩ := ot.rd
  have hF6 := fresh_trans hF5 hf6
  have r6 := r5.of_block (hf6.block _ r5.lt)
  have rb6 := rb.fresh hf6
  have rp6 := rp.fresh hf6
  clear ot r5 hf6 hF5 rb rp
  go_wp2_with fail
  refine (penc_any rb6 rp6 HB.out rt HXb.out hn x l HX.out).mono ?_
  rintro e w7 ⟨v7, rfl, hO7, hf7⟩
  have hF7 := fresh_trans hF6 hf7
  have r7 := r6.of_block (hf7.block _ r6.lt)
  obtain ⟨a7, k7, rfl, rd7⟩ := hO7.get
  clear r6 hf7 hF6 rb6 rp6 rt hO7
  rcases HX.out with ⟨hR, rfl, rfl⟩ | ⟨hR, hbad, rfl, rfl⟩ | ⟨hR, hok, rfl, rfl⟩
  · go_wp2
    go_ret
    exact ⟨rfl, hF7⟩
  · clear hbad
    go_wp2
    go_ret
    exact ⟨rfl, hF7⟩
  · have HST := hidd (d.enc_settled hR (d.first X n) d.np (Nat.le_refl _))
    have HNE := hidd (VD.enc_noEnd hok d.np)
    have HR := hidd hR
    have HOK := hidd hok
    have hlen : (d.encL (d.first X n) d.np).length ≤ 1048576 := by
      have := d.encL_len (d.first X n) d.np
      rw [d.first_len] at this
      omega
    clear hR hok HX
    obtain ⟨N, EN⟩ : ∃ N, Hid (N = (d.encL (d.first X n) d.np).length) := ⟨_, rfl⟩
    rw [← EN.out] at rd7 hlen
    rw [← EN.out]
    go_wp2
    go_loopw [10] (fun jv wr => ∃ (m : Nat), m ≤ d.np ∧ jv = .int .i64 m ∧ Below w7.heap.size w7 wr) (fun jv _ => d.np - (intOf jv).toNat)
    case atStart => exact ⟨0, by omega, rfl, Below.refl _ _⟩
    case round =>
      obtain ⟨m, hm, rfl, hfb⟩ := hrel
      obtain ⟨y0, y1⟩ := row2 (r7.of_block (hfb.block _ r7.lt))
      by_cases hlt : m < d.np
      · obtain ⟨b1, o1, rfl, h1⟩ := (hp.fresh (fresh_trans hF7 hfb)).two (by omega)
        obtain ⟨c1, c2⟩ := h1 m hlt
        clear h1
        have i1 : (0 : Int) ≤ (m : Int) := Int.natCast_nonneg _
        have i2 : (m : Int) < (d.np : Int) := by omega
        have rdw := rd7.fresh hfb
        rw [EN.out] at rdw
        have E2 := EN.out
        go_wp2_with fail
        rw [E2]
        clear E2
        refine (stands_ref rdw (by rw [← EN.out]; omega) (d.P m) (d.Q m) false ⟨(fun h => nomatch h), fun h => absurd h (HST.out m hlt)⟩).mono ?_
        rintro e w8 ⟨rfl, hf8⟩
        have hfb8 := fresh_trans hfb hf8
        clear hf8 c1 c2 y0 y1 hfb rdw
        rw [← EN.out]
        go_wp2
        go_roundw
        case rel => exact ⟨m + 1, by omega, by go_num, hfb8⟩
        case measure => simp [intOf]; omega
      · have hF8 := fresh_trans hF7 hfb
        have rd8 := rd7.fresh hfb
        have r8 := r7.of_block (hfb.block _ r7.lt)
        clear hF7 rd7 r7 hm HST
        go_wp2
        go_loopw [12] (fun jv wx => ∃ (q : Nat), q ≤ N ∧ jv = .int .i64 q ∧ wx = wr) (fun jv _ => N - (intOf jv).toNat)
        case atStart => exact ⟨0, by omega, rfl, rfl⟩
        case round =>
          obtain ⟨q, hq, rfl, rfl⟩ := hrel
          by_cases hql : q < N
          · obtain ⟨b2, o2, rfl, h2⟩ := rd8.one (by omega)
            have c2 := h2 q hql
            have hne := HNE.out q (by rw [← EN.out]; exact hql)
            clear h2
            have t1 : ((d.encL (d.first X n) d.np).getD q 0 == 0) = false := by simpa using hne
            generalize (d.encL (d.first X n) d.np).getD q 0 = z at *
            have i1 : (0 : Int) ≤ (q : Int) := Int.natCast_nonneg _
            have i2 : (q : Int) < (N : Int) := by omega
            go_wp2
            go_roundw
            case rel => exact ⟨q + 1, by omega, by go_num, trivial⟩
            case measure => simp [intOf]; omega
          · clear hq HNE
            have hpc := hp.le
            have hpt := hp.top
            obtain ⟨y0, y1⟩ := row2 r8
            obtain ⟨k, hk, hkc⟩ : ∃ k : Nat, k ≤ d.np ∧ (keep = (k : Int) ∨ (k = 0 ∧ keep < 0) ∨ (k = 0 ∧ (d.np : Int) < keep ∧ ¬ keep < 0)) := by
              by_cases h1 : keep < 0
              · exact ⟨0, by omega, .inr (.inl ⟨rfl, h1⟩)⟩
              · by_cases h2 : (d.np : Int) < keep
                · exact ⟨0, by omega, .inr (.inr ⟨rfl, h2, h1⟩)⟩
                · exact ⟨keep.toNat, by omega, .inl (by omega)⟩
            rcases hkc with rfl | ⟨rfl, h1⟩ | ⟨rfl, h1, h2⟩
            · go_upto_region 18 with fail
              have i1 : (0 : Int) ≤ (k : Int) := Int.natCast_nonneg _
              have i2 : (k : Int) ≤ (cp : Int) := by omega
              have hk9 : (k : Nat) ≤ d.np := by omega
              have hd0 : Below wr.heap.size wr wr.drew := (Below.refl _ _).drew
              have s0 := sv_next (g := w.heap.size) ⟨Below.refl wr.heap.size wr, y0, y1⟩ hd0
              have s9 := s0
              have sZ := sv_next (sv_next (g := w.heap.size) ⟨Below.refl wr.heap.size wr, y0, y1⟩ (fresh_alloc wr (.cells #[.slice none 0 0, .slice none 0 0] 25))) (Below.refl _ _).drew
              have vb0 : VBlk (wr.alloc (.cells #[.slice none 0 0, .slice none 0 0] 25)).drew wr.heap.size := vblk_new (Below.refl _ _).drew
              have H0 : w.heap.size < wr.heap.size := r8.lt
              have PB := hidd (hb.fresh hF8)
              have PP := hidd ((hp.fresh hF8).upto hk9)
              have LN := hidd (show Hid (k ≤ 8796093021952) by show k ≤ 8796093021952; omega)
              have LB := hidd (show Hid (d.nb ≤ 140737488351232) by show d.nb ≤ 140737488351232; omega)
              go_cut [13] (fun p wx => ∃ g ab ap kb kp, p = .pointer (some ⟨g, 0, none⟩) ∧ VBox wr wx d k g ab ap kb kp)
              case first =>
                go_region_held3 (fun w' => Below wr.heap.size wr w' ∧ w'.cell? ⟨w.heap.size, 0, none⟩ = some (.slice bo d.nb cb) ∧ w'.cell? ⟨w.heap.size, 1, none⟩ = some (.slice po d.np cp))
                  (first
                    | with_reducible exact s9
                    | with_reducible exact s0
                    | with_reducible exact sZ
                    | (with_reducible refine sv_next s9 ?_; with_reducible apply fresh_alloc)
                    | (with_reducible refine sv_next s0 ?_; with_reducible apply fresh_alloc)
                    | (with_reducible refine sv_set2 s9 ?_ H0; with_reducible exact s0.1.size)
                    | (with_reducible refine sv_set2 s9 ?_ H0; with_reducible exact Nat.le_refl _)
                    | go_keep)
                  ((go_at_call 21; have hc := cpv_cut (k := k) (PB.out.fresh (‹Below wr.heap.size wr _ ∧ _›).1) (PP.out.fresh (‹Below wr.heap.size wr _ ∧ _›).1) LB.out.out LN.out.out; with_reducible refine hc.mono ?_; clear hc; rintro e w9 ⟨ab9, kb9, ap9, kp9, rfl, ob9, op9, hf9⟩; have s9 := sv_next (g := w.heap.size) (by with_reducible assumption) hf9; (first | (refine' with_vblk hf9 ?_ ?_; rotate_left; (with_reducible assumption); intro vb9; obtain ⟨z0, z1, zf⟩ := vblk_cells vb9) | skip)))
                all_goals
                  go_wp2_with fail
                  go_meet
                  case rel =>
                    refine ⟨_, ab9, ap9, kb9, kp9, rfl, ?_⟩
                    first
                      | (with_reducible exact vbox_alloc s9.1 ob9 op9)
                      | exact vbox_set s9.1 vb9 (by simp) (by simp) ob9 op9
              case rest =>
                obtain ⟨g, ab, ap, kb, kp, rfl, hv⟩ := hcut
                obtain ⟨M, EM⟩ : ∃ M, Hid (M = (d.encL (d.first X n) k).length) := ⟨_, rfl⟩
                have hMN : N ≤ M := by rw [EM.out, EN.out]; exact d.encL_down _ hk9
                have hMn : M ≤ n := by
                  have := d.encL_len (d.first X n) k
                  rw [d.first_len] at this
                  rw [EM.out]; exact this
                have hM0 : k = 0 → M = n := fun h => by rw [EM.out, h]; show (d.first X n).length = n; rw [d.first_len]
                have hF9 := fresh_trans hF8 hv.low
                have r9 := r8.of_block (hv.low.block _ r8.lt)
                have rd9 := rd8.fresh hv.low
                have HA9 := hidd (ha.fresh hF9)
                have RB := hidd hv.rb
                have RP := hidd hv.rp
                have hgl := hv.row.lt
                obtain ⟨g0, g1⟩ := row2 hv.row
                have NN : Hid (n ≤ 1048576) := hn
                have KN : Hid (k ≤ d.np) := hk9
                have NB : Hid (n ≤ 140737488351232) := by show n ≤ 140737488351232; omega
                clear s0 s9 sZ vb0 PB PP LN LB hd0 H0 y0 y1 hF8 r8 rd8 hv hfb
                have hd9 : Below wc.heap.size wc wc.drew := (Below.refl _ _).drew
                have t0 := sv_next (g := g) ⟨Below.refl wc.heap.size wc, g0, g1⟩ hd9
                have t1 := t0
                have t2 := t0
                go_upto_region 19 with fail
                go_region_held3 (fun w' => Below wc.heap.size wc w' ∧ w'.cell? ⟨g, 0, none⟩ = some (.slice ab d.nb kb) ∧ w'.cell? ⟨g, 1, none⟩ = some (.slice ap k kp))
                  (first
                    | with_reducible exact t2
                    | with_reducible exact t1
                    | with_reducible exact t0
                    | go_keep)
                  (first
                    | (go_at_call 22; have hc := copyB_rd (HA9.out.fresh (‹Below wc.heap.size wc _ ∧ _›).1) NB.out; with_reducible refine hc.mono ?_; clear hc; rintro e wt ⟨at1, kt1, rfl, rt1, hft⟩; have t1 := sv_next (g := g) (by with_reducible assumption) hft)
                    | (go_at_call 20; have hc := penc_cut (RB.out.fresh t1.1) (RP.out.fresh t1.1) HB.out rt1 HXb.out NN.out HR.out HOK.out KN.out EM.out; with_reducible refine hc.mono ?_; clear hc; rintro e wm ⟨am, cm, rfl, rdm, hfm⟩; have t2 := sv_next (g := g) t1 hfm))
                all_goals
                  have hfm2 := t2.1
                  have hF10 := fresh_trans hF9 hfm2
                  have r10 := r9.of_block (hfm2.block _ r9.lt)
                  have rd10 := rd9.fresh hfm2
                  have hLL : Hid ((d.first X n).length ≤ 1048576) := by show (d.first X n).length ≤ 1048576; rw [d.first_len]; exact hn
                  obtain ⟨y0, y1⟩ := row2 r10
                  clear t0 t1 t2 g0 g1 r9 rd9 hF9 HA9 RB RP hd9 hfm hfm2 rt1 hft
                  rcases (show (k = 0 ∧ n = M) ∨ k ≠ 0 from if h : k = 0 then .inl ⟨h, (hM0 h).symm⟩ else .inr h) with ⟨hk0, rfl⟩ | hk0
                  all_goals
                    go_wp2_with fail
                    refine (rjoin_cut HR.out (bo := bo) (cb := cb) (hp.fresh hF10) (d.first X n) hLL.out KN.out EM.out EN.out rdm).mono ?_
                    rintro e wj ⟨aj, cj, rfl, rdj, hfj⟩
                    have hF11 := fresh_trans hF10 hfj
                    have rd11 := rd10.fresh hfj
                    clear y0 y1
                    go_wp2_with fail
                    refine (eqInts_same rdj rd11 (fun _ _ => rfl)).mono ?_
                    rintro e wz ⟨rfl, hfz⟩
                    have hF12 := fresh_trans hF11 hfz
                    go_wp2
                    go_ret
                    exact ⟨rfl, hF12⟩
            · go_upto_region 18 with fail
              have hk9 : (0 : Nat) ≤ d.np := by omega
              have hd0 : Below wr.heap.size wr wr.drew := (Below.refl _ _).drew
              have s0 := sv_next (g := w.heap.size) ⟨Below.refl wr.heap.size wr, y0, y1⟩ hd0
              have s9 := s0
              have sZ := sv_next (sv_next (g := w.heap.size) ⟨Below.refl wr.heap.size wr, y0, y1⟩ (fresh_alloc wr (.cells #[.slice none 0 0, .slice none 0 0] 25))) (Below.refl _ _).drew
              have vb0 : VBlk (wr.alloc (.cells #[.slice none 0 0, .slice none 0 0] 25)).drew wr.heap.size := vblk_new (Below.refl _ _).drew
              have H0 : w.heap.size < wr.heap.size := r8.lt
              have PB := hidd (hb.fresh hF8)
              have PP := hidd ((hp.fresh hF8).upto hk9)
              have LN := hidd (show Hid (0 ≤ 8796093021952) by show 0 ≤ 8796093021952; omega)
              have LB := hidd (show Hid (d.nb ≤ 140737488351232) by show d.nb ≤ 140737488351232; omega)
              go_cut [13] (fun p wx => ∃ g ab ap kb kp, p = .pointer (some ⟨g, 0, none⟩) ∧ VBox wr wx d 0 g ab ap kb kp)
              case first =>
                go_region_held3 (fun w' => Below wr.heap.size wr w' ∧ w'.cell? ⟨w.heap.size, 0, none⟩ = some (.slice bo d.nb cb) ∧ w'.cell? ⟨w.heap.size, 1, none⟩ = some (.slice po d.np cp))
                  (first
                    | with_reducible exact s9
                    | with_reducible exact s0
                    | with_reducible exact sZ
                    | (with_reducible refine sv_next s9 ?_; with_reducible apply fresh_alloc)
                    | (with_reducible refine sv_next s0 ?_; with_reducible apply fresh_alloc)
                    | (with_reducible refine sv_set2 s9 ?_ H0; with_reducible exact s0.1.size)
                    | (with_reducible refine sv_set2 s9 ?_ H0; with_reducible exact Nat.le_refl _)
                    | go_keep)
                  ((go_at_call 21; have hc := cpv_cut (k := 0) (PB.out.fresh (‹Below wr.heap.size wr _ ∧ _›).1) (PP.out.fresh (‹Below wr.heap.size wr _ ∧ _›).1) LB.out.out LN.out.out; with_reducible refine hc.mono ?_; clear hc; rintro e w9 ⟨ab9, kb9, ap9, kp9, rfl, ob9, op9, hf9⟩; have s9 := sv_next (g := w.heap.size) (by with_reducible assumption) hf9; (first | (refine' with_vblk hf9 ?_ ?_; rotate_left; (with_reducible assumption); intro vb9; obtain ⟨z0, z1, zf⟩ := vblk_cells vb9) | skip)))
                all_goals
                  go_wp2_with fail
                  go_meet
                  case rel =>
                    refine ⟨_, ab9, ap9, kb9, kp9, rfl, ?_⟩
                    first
                      | (with_reducible exact vbox_alloc s9.1 ob9 op9)
                      | exact vbox_set s9.1 vb9 (by simp) (by simp) ob9 op9
              case rest =>
                obtain ⟨g, ab, ap, kb, kp, rfl, hv⟩ := hcut
                obtain ⟨M, EM⟩ : ∃ M, Hid (M = (d.encL (d.first X n) 0).length) := ⟨_, rfl⟩
                have hMN : N ≤ M := by rw [EM.out, EN.out]; exact d.encL_down _ hk9
                have hMn : M ≤ n := by
                  have := d.encL_len (d.first X n) 0
                  rw [d.first_len] at this
                  rw [EM.out]; exact this
                have hM0 : 0 = 0 → M = n := fun h => by rw [EM.out, h]; show (d.first X n).length = n; rw [d.first_len]
                have hF9 := fresh_trans hF8 hv.low
                have r9 := r8.of_block (hv.low.block _ r8.lt)
                have rd9 := rd8.fresh hv.low
                have HA9 := hidd (ha.fresh hF9)
                have RB := hidd hv.rb
                have RP := hidd hv.rp
                have hgl := hv.row.lt
                obtain ⟨g0, g1⟩ := row2 hv.row
                have NN : Hid (n ≤ 1048576) := hn
                have KN : Hid (0 ≤ d.np) := hk9
                have NB : Hid (n ≤ 140737488351232) := by show n ≤ 140737488351232; omega
                clear s0 s9 sZ vb0 PB PP LN LB hd0 H0 y0 y1 hF8 r8 rd8 hv hfb
                have hd9 : Below wc.heap.size wc wc.drew := (Below.refl _ _).drew
                have t0 := sv_next (g := g) ⟨Below.refl wc.heap.size wc, g0, g1⟩ hd9
                have t1 := t0
                have t2 := t0
                go_upto_region 19 with fail
                go_region_held3 (fun w' => Below wc.heap.size wc w' ∧ w'.cell? ⟨g, 0, none⟩ = some (.slice ab d.nb kb) ∧ w'.cell? ⟨g, 1, none⟩ = some (.slice ap 0 kp))
                  (first
                    | with_reducible exact t2
                    | with_reducible exact t1
                    | with_reducible exact t0
                    | go_keep)
                  (first
                    | (go_at_call 22; have hc := copyB_rd (HA9.out.fresh (‹Below wc.heap.size wc _ ∧ _›).1) NB.out; with_reducible refine hc.mono ?_; clear hc; rintro e wt ⟨at1, kt1, rfl, rt1, hft⟩; have t1 := sv_next (g := g) (by with_reducible assumption) hft)
                    | (go_at_call 20; have hc := penc_cut (RB.out.fresh t1.1) (RP.out.fresh t1.1) HB.out rt1 HXb.out NN.out HR.out HOK.out KN.out EM.out; with_reducible refine hc.mono ?_; clear hc; rintro e wm ⟨am, cm, rfl, rdm, hfm⟩; have t2 := sv_next (g := g) t1 hfm))
                all_goals
                  have hfm2 := t2.1
                  have hF10 := fresh_trans hF9 hfm2
                  have r10 := r9.of_block (hfm2.block _ r9.lt)
                  have rd10 := rd9.fresh hfm2
                  have hLL : Hid ((d.first X n).length ≤ 1048576) := by show (d.first X n).length ≤ 1048576; rw [d.first_len]; exact hn
                  obtain ⟨y0, y1⟩ := row2 r10
                  clear t0 t1 t2 g0 g1 r9 rd9 hF9 HA9 RB RP hd9 hfm hfm2 rt1 hft
                  obtain rfl := (hM0 (by trivial)).symm
                  all_goals
                    go_wp2_with fail
                    refine (rjoin_cut HR.out (bo := bo) (cb := cb) (hp.fresh hF10) (d.first X n) hLL.out KN.out EM.out EN.out rdm).mono ?_
                    rintro e wj ⟨aj, cj, rfl, rdj, hfj⟩
                    have hF11 := fresh_trans hF10 hfj
                    have rd11 := rd10.fresh hfj
                    clear y0 y1
                    go_wp2_with fail
                    refine (eqInts_same rdj rd11 (fun _ _ => rfl)).mono ?_
                    rintro e wz ⟨rfl, hfz⟩
                    have hF12 := fresh_trans hF11 hfz
                    go_wp2
                    go_ret
                    exact ⟨rfl, hF12⟩
            · go_upto_region 18 with fail
              have hk9 : (0 : Nat) ≤ d.np := by omega
              have hd0 : Below wr.heap.size wr wr.drew := (Below.refl _ _).drew
              have s0 := sv_next (g := w.heap.size) ⟨Below.refl wr.heap.size wr, y0, y1⟩ hd0
              have s9 := s0
              have sZ := sv_next (sv_next (g := w.heap.size) ⟨Below.refl wr.heap.size wr, y0, y1⟩ (fresh_alloc wr (.cells #[.slice none 0 0, .slice none 0 0] 25))) (Below.refl _ _).drew
              have vb0 : VBlk (wr.alloc (.cells #[.slice none 0 0, .slice none 0 0] 25)).drew wr.heap.size := vblk_new (Below.refl _ _).drew
              have H0 : w.heap.size < wr.heap.size := r8.lt
              have PB := hidd (hb.fresh hF8)
              have PP := hidd ((hp.fresh hF8).upto hk9)
              have LN := hidd (show Hid (0 ≤ 8796093021952) by show 0 ≤ 8796093021952; omega)
              have LB := hidd (show Hid (d.nb ≤ 140737488351232) by show d.nb ≤ 140737488351232; omega)
              go_cut [13] (fun p wx => ∃ g ab ap kb kp, p = .pointer (some ⟨g, 0, none⟩) ∧ VBox wr wx d 0 g ab ap kb kp)
              case first =>
                go_region_held3 (fun w' => Below wr.heap.size wr w' ∧ w'.cell? ⟨w.heap.size, 0, none⟩ = some (.slice bo d.nb cb) ∧ w'.cell? ⟨w.heap.size, 1, none⟩ = some (.slice po d.np cp))
                  (first
                    | with_reducible exact s9
                    | with_reducible exact s0
                    | with_reducible exact sZ
                    | (with_reducible refine sv_next s9 ?_; with_reducible apply fresh_alloc)
                    | (with_reducible refine sv_next s0 ?_; with_reducible apply fresh_alloc)
                    | (with_reducible refine sv_set2 s9 ?_ H0; with_reducible exact s0.1.size)
                    | (with_reducible refine sv_set2 s9 ?_ H0; with_reducible exact Nat.le_refl _)
                    | go_keep)
                  ((go_at_call 21; have hc := cpv_cut (k := 0) (PB.out.fresh (‹Below wr.heap.size wr _ ∧ _›).1) (PP.out.fresh (‹Below wr.heap.size wr _ ∧ _›).1) LB.out.out LN.out.out; with_reducible refine hc.mono ?_; clear hc; rintro e w9 ⟨ab9, kb9, ap9, kp9, rfl, ob9, op9, hf9⟩; have s9 := sv_next (g := w.heap.size) (by with_reducible assumption) hf9; (first | (refine' with_vblk hf9 ?_ ?_; rotate_left; (with_reducible assumption); intro vb9; obtain ⟨z0, z1, zf⟩ := vblk_cells vb9) | skip)))
                all_goals
                  go_wp2_with fail
                  go_meet
                  case rel =>
                    refine ⟨_, ab9, ap9, kb9, kp9, rfl, ?_⟩
                    first
                      | (with_reducible exact vbox_alloc s9.1 ob9 op9)
                      | exact vbox_set s9.1 vb9 (by simp) (by simp) ob9 op9
              case rest =>
                obtain ⟨g, ab, ap, kb, kp, rfl, hv⟩ := hcut
                obtain ⟨M, EM⟩ : ∃ M, Hid (M = (d.encL (d.first X n) 0).length) := ⟨_, rfl⟩
                have hMN : N ≤ M := by rw [EM.out, EN.out]; exact d.encL_down _ hk9
                have hMn : M ≤ n := by
                  have := d.encL_len (d.first X n) 0
                  rw [d.first_len] at this
                  rw [EM.out]; exact this
                have hM0 : 0 = 0 → M = n := fun h => by rw [EM.out, h]; show (d.first X n).length = n; rw [d.first_len]
                have hF9 := fresh_trans hF8 hv.low
                have r9 := r8.of_block (hv.low.block _ r8.lt)
                have rd9 := rd8.fresh hv.low
                have HA9 := hidd (ha.fresh hF9)
                have RB := hidd hv.rb
                have RP := hidd hv.rp
                have hgl := hv.row.lt
                obtain ⟨g0, g1⟩ := row2 hv.row
                have NN : Hid (n ≤ 1048576) := hn
                have KN : Hid (0 ≤ d.np) := hk9
                have NB : Hid (n ≤ 140737488351232) := by show n ≤ 140737488351232; omega
                clear s0 s9 sZ vb0 PB PP LN LB hd0 H0 y0 y1 hF8 r8 rd8 hv hfb
                have hd9 : Below wc.heap.size wc wc.drew := (Below.refl _ _).drew
                have t0 := sv_next (g := g) ⟨Below.refl wc.heap.size wc, g0, g1⟩ hd9
                have t1 := t0
                have t2 := t0
                go_upto_region 19 with fail
                go_region_held3 (fun w' => Below wc.heap.size wc w' ∧ w'.cell? ⟨g, 0, none⟩ = some (.slice ab d.nb kb) ∧ w'.cell? ⟨g, 1, none⟩ = some (.slice ap 0 kp))
                  (first
                    | with_reducible exact t2
                    | with_reducible exact t1
                    | with_reducible exact t0
                    | go_keep)
                  (first
                    | (go_at_call 22; have hc := copyB_rd (HA9.out.fresh (‹Below wc.heap.size wc _ ∧ _›).1) NB.out; with_reducible refine hc.mono ?_; clear hc; rintro e wt ⟨at1, kt1, rfl, rt1, hft⟩; have t1 := sv_next (g := g) (by with_reducible assumption) hft)
                    | (go_at_call 20; have hc := penc_cut (RB.out.fresh t1.1) (RP.out.fresh t1.1) HB.out rt1 HXb.out NN.out HR.out HOK.out KN.out EM.out; with_reducible refine hc.mono ?_; clear hc; rintro e wm ⟨am, cm, rfl, rdm, hfm⟩; have t2 := sv_next (g := g) t1 hfm))
                all_goals
                  have hfm2 := t2.1
                  have hF10 := fresh_trans hF9 hfm2
                  have r10 := r9.of_block (hfm2.block _ r9.lt)
                  have rd10 := rd9.fresh hfm2
                  have hLL : Hid ((d.first X n).length ≤ 1048576) := by show (d.first X n).length ≤ 1048576; rw [d.first_len]; exact hn
                  obtain ⟨y0, y1⟩ := row2 r10
                  clear t0 t1 t2 g0 g1 r9 rd9 hF9 HA9 RB RP hd9 hfm hfm2 rt1 hft
                  obtain rfl := (hM0 (by trivial)).symm
                  all_goals
                    go_wp2_with fail
                    refine (rjoin_cut HR.out (bo := bo) (cb := cb) (hp.fresh hF10) (d.first X n) hLL.out KN.out EM.out EN.out rdm).mono ?_
                    rintro e wj ⟨aj, cj, rfl, rdj, hfj⟩
                    have hF11 := fresh_trans hF10 hfj
                    have rd11 := rd10.fresh hfj
                    clear y0 y1
                    go_wp2_with fail
                    refine (eqInts_same rdj rd11 (fun _ _ => rfl)).mono ?_
                    rintro e wz ⟨rfl, hfz⟩
                    have hF12 := fresh_trans hF11 hfz
                    go_wp2
                    go_ret
                    exact ⟨rfl, hF12⟩
end Go.Proofs.Yteiocgciblogdaa
