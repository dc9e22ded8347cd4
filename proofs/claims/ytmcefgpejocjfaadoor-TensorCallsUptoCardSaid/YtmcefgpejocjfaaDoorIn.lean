import Derived.Test.YtmcefgpejocjfaaDoorInB
import Derived.Test.YtmcefgpejocjfaaDoorVec
import Derived.Deep.DeepCutAuto
namespace Go.Proofs.YtmcefgpejocjfaaDoor
open Go.RowKit
attribute [local go_sem ↓] Go.wp_at_zero Go.wp_at_succ
set_option maxRecDepth 20000 in
set_option maxHeartbeats 40000000 in
theorem in_any {w : World} {o : OpD} (hR : OpR w o) :
    Calls Tryd.prog 8 #[.agg #[.int .i64 o.kind, .int .i64 o.R, .int .i64 o.C, .slice o.dO o.nD o.cD, .slice o.aO o.nA o.cA, .slice o.bO o.nB o.cB, .slice o.xO o.nX o.cX, .slice o.vO o.nV o.cV, .slice o.tO o.nT o.cT, .int .i64 o.N]] w fun e w' => ∃ i : InD, e = .returned (.agg #[.slice i.aO (o.nA + 64) i.cA, .slice i.bO (o.nB + 64) i.cB, .slice i.dO (o.nD + 64) i.cD, .slice i.xO (o.nX + 64) i.cX, .slice i.tO (o.nT + 64) i.cT, .slice i.vO o.nV i.cV]) ∧ InR w' i o ∧ Below w.heap.size w w' := by
  have HR := hidd hR
  clear hR
  go_enter Tryd.func8, Tryd.ntmps8
  go_wp2
  have hf0 := fresh_trans (fresh_alloc w (.cells #[.int .i64 o.kind, .int .i64 o.R, .int .i64 o.C, .slice o.dO o.nD o.cD, .slice o.aO o.nA o.cA, .slice o.bO o.nB o.cB, .slice o.xO o.nX o.cX, .slice o.vO o.nV o.cV, .slice o.tO o.nT o.cT, .int .i64 o.N] 33)) (fresh_alloc _ (.cells #[.slice none 0 0, .slice none 0 0, .slice none 0 0, .slice none 0 0, .slice none 0 0, .slice none 0 0] 41))
  have g3 : ((w.alloc (.cells #[.int .i64 o.kind, .int .i64 o.R, .int .i64 o.C, .slice o.dO o.nD o.cD, .slice o.aO o.nA o.cA, .slice o.bO o.nB o.cB, .slice o.xO o.nX o.cX, .slice o.vO o.nV o.cV, .slice o.tO o.nT o.cT, .int .i64 o.N] 33)).alloc (.cells #[.slice none 0 0, .slice none 0 0, .slice none 0 0, .slice none 0 0, .slice none 0 0, .slice none 0 0] 41)).cell? ⟨w.heap.size, 3, none⟩ = some (.slice o.dO o.nD o.cD) := by simp
  have g4 : ((w.alloc (.cells #[.int .i64 o.kind, .int .i64 o.R, .int .i64 o.C, .slice o.dO o.nD o.cD, .slice o.aO o.nA o.cA, .slice o.bO o.nB o.cB, .slice o.xO o.nX o.cX, .slice o.vO o.nV o.cV, .slice o.tO o.nT o.cT, .int .i64 o.N] 33)).alloc (.cells #[.slice none 0 0, .slice none 0 0, .slice none 0 0, .slice none 0 0, .slice none 0 0, .slice none 0 0] 41)).cell? ⟨w.heap.size, 4, none⟩ = some (.slice o.aO o.nA o.cA) := by simp
  have g5 : ((w.alloc (.cells #[.int .i64 o.kind, .int .i64 o.R, .int .i64 o.C, .slice o.dO o.nD o.cD, .slice o.aO o.nA o.cA, .slice o.bO o.nB o.cB, .slice o.xO o.nX o.cX, .slice o.vO o.nV o.cV, .slice o.tO o.nT o.cT, .int .i64 o.N] 33)).alloc (.cells #[.slice none 0 0, .slice none 0 0, .slice none 0 0, .slice none 0 0, .slice none 0 0, .slice none 0 0] 41)).cell? ⟨w.heap.size, 5, none⟩ = some (.slice o.bO o.nB o.cB) := by simp
  have g6 : ((w.alloc (.cells #[.int .i64 o.kind, .int .i64 o.R, .int .i64 o.C, .slice o.dO o.nD o.cD, .slice o.aO o.nA o.cA, .slice o.bO o.nB o.cB, .slice o.xO o.nX o.cX, .slice o.vO o.nV o.cV, .slice o.tO o.nT o.cT, .int .i64 o.N] 33)).alloc (.cells #[.slice none 0 0, .slice none 0 0, .slice none 0 0, .slice none 0 0, .slice none 0 0, .slice none 0 0] 41)).cell? ⟨w.heap.size, 6, none⟩ = some (.slice o.xO o.nX o.cX) := by simp
  have g7 : ((w.alloc (.cells #[.int .i64 o.kind, .int .i64 o.R, .int .i64 o.C, .slice o.dO o.nD o.cD, .slice o.aO o.nA o.cA, .slice o.bO o.nB o.cB, .slice o.xO o.nX o.cX, .slice o.vO o.nV o.cV, .slice o.tO o.nT o.cT, .int .i64 o.N] 33)).alloc (.cells #[.slice none 0 0, .slice none 0 0, .slice none 0 0, .slice none 0 0, .slice none 0 0, .slice none 0 0] 41)).cell? ⟨w.heap.size, 7, none⟩ = some (.slice o.vO o.nV o.cV) := by simp
  have g8 : ((w.alloc (.cells #[.int .i64 o.kind, .int .i64 o.R, .int .i64 o.C, .slice o.dO o.nD o.cD, .slice o.aO o.nA o.cA, .slice o.bO o.nB o.cB, .slice o.xO o.nX o.cX, .slice o.vO o.nV o.cV, .slice o.tO o.nT o.cT, .int .i64 o.N] 33)).alloc (.cells #[.slice none 0 0, .slice none 0 0, .slice none 0 0, .slice none 0 0, .slice none 0 0, .slice none 0 0] 41)).cell? ⟨w.heap.size, 8, none⟩ = some (.slice o.tO o.nT o.cT) := by simp
  have HN := hidd (heap_new2 w (.cells #[.int .i64 o.kind, .int .i64 o.R, .int .i64 o.C, .slice o.dO o.nD o.cD, .slice o.aO o.nA o.cA, .slice o.bO o.nB o.cB, .slice o.xO o.nX o.cX, .slice o.vO o.nV o.cV, .slice o.tO o.nT o.cT, .int .i64 o.N] 33) (.cells #[.slice none 0 0, .slice none 0 0, .slice none 0 0, .slice none 0 0, .slice none 0 0, .slice none 0 0] 41))
  have hs1 : ((w.alloc (.cells #[.int .i64 o.kind, .int .i64 o.R, .int .i64 o.C, .slice o.dO o.nD o.cD, .slice o.aO o.nA o.cA, .slice o.bO o.nB o.cB, .slice o.xO o.nX o.cX, .slice o.vO o.nV o.cV, .slice o.tO o.nT o.cT, .int .i64 o.N] 33)).alloc (.cells #[.slice none 0 0, .slice none 0 0, .slice none 0 0, .slice none 0 0, .slice none 0 0, .slice none 0 0] 41)).heap.size = w.heap.size + 2 := by simp
  generalize (w.alloc (.cells #[.int .i64 o.kind, .int .i64 o.R, .int .i64 o.C, .slice o.dO o.nD o.cD, .slice o.aO o.nA o.cA, .slice o.bO o.nB o.cB, .slice o.xO o.nX o.cX, .slice o.vO o.nV o.cV, .slice o.tO o.nT o.cT, .int .i64 o.N] 33)).alloc (.cells #[.slice none 0 0, .slice none 0 0, .slice none 0 0, .slice none 0 0, .slice none 0 0, .slice none 0 0] 41) = w1 at *
  have H1 := hidd (HR.out.fresh hf0)
  have SA : Hid (o.nA ≤ 1073741824) := by have := H1.out.sA; show o.nA ≤ 1073741824; omega
  have SB : Hid (o.nB ≤ 1073741824) := by have := H1.out.sB; show o.nB ≤ 1073741824; omega
  have SD : Hid (o.nD ≤ 1073741824) := by have := H1.out.sD; show o.nD ≤ 1073741824; omega
  have SX : Hid (o.nX ≤ 1073741824) := by have := H1.out.sX; show o.nX ≤ 1073741824; omega
  have ST : Hid (o.nT ≤ 1073741824) := by have := H1.out.sT; show o.nT ≤ 1073741824; omega
  have SV : Hid (o.nV ≤ 1073741824) := by have := H1.out.sV; show o.nV ≤ 1073741824; omega
  have HS1 := hidd hs1
  clear hs1
  have hB : Below w1.heap.size w1 w1.drew := (Below.refl _ _).drew
  have s0 := sin_next (g := w.heap.size) ⟨Below.refl w1.heap.size w1, g3, g4, g5, g6, g8⟩ hB
  have sZ := sin_next (sin_next (g := w.heap.size) ⟨Below.refl w1.heap.size w1, g3, g4, g5, g6, g8⟩ (fresh_alloc w1 (.cells #[.slice none 0 0, .slice none 0 0, .slice none 0 0, .slice none 0 0, .slice none 0 0, .slice none 0 0] 41))) (Below.refl _ _).drew
  have kb0 : Blk (w1.alloc (.cells #[.slice none 0 0, .slice none 0 0, .slice none 0 0, .slice none 0 0, .slice none 0 0, .slice none 0 0] 41)).drew w1.heap.size := blk_new (Below.refl _ _).drew
  have sA := s0
  have sB := s0
  have sD := s0
  have sX := s0
  have sT := s0
  have H0 : w.heap.size < w1.heap.size := by have := HS1.out; omega
  go_cut [3, 8, 11, 15, 18, 21, 22] (fun p _ _ _ _ _ _ wx => ∃ g aA aB aD aX aT cA cB cD cX cT, p = .pointer (some ⟨g, 0, none⟩) ∧ InM w1 wx o g aA aB aD aX aT cA cB cD cX cT)
  case first =>
    as_aux_lemma =>
      go_region_held3 (fun w' => Below w1.heap.size w1 w' ∧ w'.cell? ⟨w.heap.size, 3, none⟩ = some (.slice o.dO o.nD o.cD) ∧ w'.cell? ⟨w.heap.size, 4, none⟩ = some (.slice o.aO o.nA o.cA) ∧ w'.cell? ⟨w.heap.size, 5, none⟩ = some (.slice o.bO o.nB o.cB) ∧
          w'.cell? ⟨w.heap.size, 6, none⟩ = some (.slice o.xO o.nX o.cX) ∧ w'.cell? ⟨w.heap.size, 8, none⟩ = some (.slice o.tO o.nT o.cT))
        (first
          | with_reducible exact sT
          | with_reducible exact sX
          | with_reducible exact sD
          | with_reducible exact sB
          | with_reducible exact sA
          | (with_reducible refine sin_next sT ?_; with_reducible apply fresh_alloc)
          | (with_reducible refine sin_next sX ?_; with_reducible apply fresh_alloc)
          | (with_reducible refine sin_next sD ?_; with_reducible apply fresh_alloc)
          | (with_reducible refine sin_next sB ?_; with_reducible apply fresh_alloc)
          | (with_reducible refine sin_next sA ?_; with_reducible apply fresh_alloc)
          | (with_reducible refine sin_next s0 ?_; with_reducible apply fresh_alloc)
          | (with_reducible refine sin_set6 sT ?_ H0; with_reducible exact s0.1.size)
          | (with_reducible refine sin_set6 sT ?_ H0; with_reducible exact sA.1.size)
          | (with_reducible refine sin_set6 sT ?_ H0; with_reducible exact sB.1.size)
          | (with_reducible refine sin_set6 sT ?_ H0; with_reducible exact sD.1.size)
          | (with_reducible refine sin_set6 sT ?_ H0; with_reducible exact sX.1.size)
          | (with_reducible refine sin_set6 sT ?_ H0; with_reducible exact Nat.le_refl _)
          | with_reducible exact sZ
          | go_keep)
        (first | (go_at_call 18; have hc := narrowed_any (H1.out.a.fresh (‹Below w1.heap.size w1 _ ∧ _›).1) SA.out; with_reducible refine hc.mono ?_; clear hc; rintro e wA ⟨vA, rfl, hoA, hfA⟩; obtain ⟨aA, cA, rfl, hrA⟩ := hoA.rd'; have sA := sin_next (g := w.heap.size) (by with_reducible assumption) hfA; (first | (with_reducible have kbA := blk_new hfA) | (refine' with_blk hfA ?_ ?_; rotate_left; (with_reducible assumption); intro kbA) | skip)) | (go_at_call 18; have hc := narrowed_any (H1.out.b.fresh (‹Below w1.heap.size w1 _ ∧ _›).1) SB.out; with_reducible refine hc.mono ?_; clear hc; rintro e wB ⟨vB, rfl, hoB, hfB⟩; obtain ⟨aB, cB, rfl, hrB⟩ := hoB.rd'; have sB := sin_next (g := w.heap.size) (by with_reducible assumption) hfB; (first | (with_reducible have kbB := blk_new hfB) | (refine' with_blk hfB ?_ ?_; rotate_left; (with_reducible assumption); intro kbB) | skip)) | (go_at_call 18; have hc := narrowed_any (H1.out.d.fresh (‹Below w1.heap.size w1 _ ∧ _›).1) SD.out; with_reducible refine hc.mono ?_; clear hc; rintro e wD ⟨vD, rfl, hoD, hfD⟩; obtain ⟨aD, cD, rfl, hrD⟩ := hoD.rd'; have sD := sin_next (g := w.heap.size) (by with_reducible assumption) hfD; (first | (with_reducible have kbD := blk_new hfD) | (refine' with_blk hfD ?_ ?_; rotate_left; (with_reducible assumption); intro kbD) | skip)) | (go_at_call 19; have hc := widened_any (H1.out.x.fresh (‹Below w1.heap.size w1 _ ∧ _›).1) SX.out; with_reducible refine hc.mono ?_; clear hc; rintro e wX ⟨vX, rfl, hoX, hfX⟩; obtain ⟨aX, cX, rfl, hrX⟩ := hoX.rd'; have sX := sin_next (g := w.heap.size) (by with_reducible assumption) hfX; (first | (with_reducible have kbX := blk_new hfX) | (refine' with_blk hfX ?_ ?_; rotate_left; (with_reducible assumption); intro kbX) | skip)) | (go_at_call 20; have hc := mturned_any (H1.out.t.fresh (‹Below w1.heap.size w1 _ ∧ _›).1) ST.out; with_reducible refine hc.mono ?_; clear hc; rintro e wT ⟨vT, rfl, hoT, hfT⟩; obtain ⟨aT, cT, rfl, hrT⟩ := hoT.rd'; have sT := sin_next (g := w.heap.size) (by with_reducible assumption) hfT; (first | (with_reducible have kbT := blk_new hfT; obtain ⟨kc0, kc1, kc2, kc3, kc4, kc5, kf⟩ := blk_cells kbT) | (refine' with_blk hfT ?_ ?_; rotate_left; (with_reducible assumption); intro kbT; obtain ⟨kc0, kc1, kc2, kc3, kc4, kc5, kf⟩ := blk_cells kbT) | skip)))
      all_goals
        go_wp2_with fail
        go_meet
        case rel =>
          have kB : Below wA.heap.size wA wB := by first | with_reducible apply hfB | (with_reducible refine fresh_trans ?_ hfB; with_reducible apply fresh_alloc)
          have kD : Below wB.heap.size wB wD := by first | with_reducible apply hfD | (with_reducible refine fresh_trans ?_ hfD; with_reducible apply fresh_alloc)
          have kX : Below wD.heap.size wD wX := by first | with_reducible apply hfX | (with_reducible refine fresh_trans ?_ hfX; with_reducible apply fresh_alloc)
          have kT : Below wX.heap.size wX wT := by first | with_reducible apply hfT | (with_reducible refine fresh_trans ?_ hfT; with_reducible apply fresh_alloc)
          have z0 := s0.1.size
          have zZ := sZ.1.size
          have zA := sA.1.size
          have zB := sB.1.size
          have zD := sD.1.size
          have zX := sX.1.size
          have yA := hfA.size
          have yB := hfB.size
          have yD := hfD.size
          have yX := hfX.size
          have yT := hfT.size
          have lA := hoA.lt
          have lB := hoB.lt
          have lD := hoD.lt
          have lX := hoX.lt
          have lT := hoT.lt
          have OA := (hoA.weaken (base' := w1.heap.size) (by first | omega | (simp; omega))).kept (fresh_trans kB (fresh_trans kD (fresh_trans kX kT)))
          have OB := (hoB.weaken (base' := w1.heap.size) (by first | omega | (simp; omega))).kept (fresh_trans kD (fresh_trans kX kT))
          have OD := (hoD.weaken (base' := w1.heap.size) (by first | omega | (simp; omega))).kept (fresh_trans kX kT)
          have OX := (hoX.weaken (base' := w1.heap.size) (by first | omega | (simp; omega))).kept kT
          have OT := hoT.weaken (base' := w1.heap.size) (by first | omega | (simp; omega))
          have sT1 := sT.1
          refine ⟨_, aA, aB, aD, aX, aT, cA, cB, cD, cX, cT, rfl, ?_⟩
          first
            | (with_reducible apply inm_alloc <;> with_reducible assumption)
            | (with_reducible refine inm_set sT1 kbT ?_ OA OB OD OX OT (fun h => ?_) (fun h => ?_) (fun h => ?_) (fun h => ?_) (fun h => ?_)
               · omega
               · obtain ⟨q1, q2⟩ := lA _ h
                 first | omega | (simp at q1 yA yB yD yX yT; omega)
               · obtain ⟨q1, q2⟩ := lB _ h
                 first | omega | (simp at q1 yA yB yD yX yT; omega)
               · obtain ⟨q1, q2⟩ := lD _ h
                 first | omega | (simp at q1 yA yB yD yX yT; omega)
               · obtain ⟨q1, q2⟩ := lX _ h
                 first | omega | (simp at q1 yA yB yD yX yT; omega)
               · obtain ⟨q1, q2⟩ := lT _ h
                 first | omega | (simp at q1 yA yB yD yX yT; omega))
  case rest =>
    obtain ⟨g, aA, aB, aD, aX, aT, cA, cB, cD, cX, cT, rfl, hM⟩ := hcut
    have HIL := hidd (IL.start hM)
    have hnV := HR.out.sV
    have hsV := SV.out
    clear hM s0 sZ kb0 sA sB sD sX sT hB g3 g4 g5 g6 g8 SA SB SD SX ST SV
    have K7 := hidd g7
    clear g7
    go_wp2
    go_loopw [4] (fun j wr => ∃ (k : Nat) (v : Value) (A : Nat → Option Addr) (K : Nat → Nat), k ≤ o.nV ∧ j = .int .i64 k ∧ Hid (IL w1 wr o g aA aB aD aX aT cA cB cD cX cT k v A K)) (fun j _ => o.nV - (intOf j).toNat)
    case atStart => exact ⟨0, _, _, _, by omega, rfl, HIL⟩
    case round =>
      clear HIL
      obtain ⟨k, v, A, K, hk, rfl, HIL⟩ := hrel
      have k7 := fresh_cell HIL.out.low K7.out
      have hgl := HIL.out.row.lt
      by_cases hlt : k < o.nV
      · have hfw := fresh_trans hf0 HIL.out.low
        obtain ⟨ob, of, hoa, h2⟩ := (HR.out.v.top.fresh hfw).one (by omega)
        have c2 := h2 k hlt
        have hrow := (HR.out.v.row k hlt).fresh hfw
        have hL := HR.out.sL k hlt
        rw [hoa] at k7
        clear h2 hoa
        go_wp2_with fail
        refine (narrowed_any hrow (by omega)).mono ?_
        rintro e w2 ⟨nv, rfl, hown, hf2⟩
        obtain ⟨na, nc, rfl, hnr⟩ := hown.rd'
        obtain ⟨A', hA1, hA2⟩ : ∃ A' : Nat → Option Addr, A' k = na ∧ ∀ q, q < k → A' q = A q := ⟨fun q => if q = k then na else A q, if_pos rfl, fun q hq => if_neg (by omega)⟩
        obtain ⟨K', hK1, hK2⟩ : ∃ K' : Nat → Nat, K' k = nc ∧ ∀ q, q < k → K' q = K q := ⟨fun q => if q = k then nc else K q, if_pos rfl, fun q hq => if_neg (by omega)⟩
        have hvk : Hid (vsl o A' K' k = .slice na (o.Vl k + 64) nc) := by show vsl o A' K' k = _; unfold vsl; rw [hA1, hK1]
        have hvq : Hid (∀ q, q < k → vsl o A' K' q = vsl o A K q) := fun q hq => by unfold vsl; rw [hA2 q hq, hK2 q hq]
        have HN2 := hidd hown
        have I2 := hidd (HIL.out.kept hf2)
        have hg5 := I2.out.row.cell (i := 5) (by decide)
        have hg5f := I2.out.row.frozen
        have hT := I2.out.top.congr (fun q hq => (hvq.out q (by omega)).symm)
        have hlow := I2.out.low.size
        have hnew : Hid (∀ (w0 : World) (t : TypeId), (w0.alloc (.cells #[.slice na (o.Vl k + 64) nc] t)).cell? ⟨w0.heap.size, 0, none⟩ = some (vsl o A' K' k)) := fun w0 t => by rw [new_cell, hvk.out]
        have hone : Hid ((vsl o A' K' k).oneCell' = true) := by show (vsl o A' K' k).oneCell' = true; rw [hvk.out]; rfl
        obtain ⟨va, vc, hv, _⟩ := HIL.out.top.rd'
        clear hA1 hA2 hK1 hK2 hown hnr c2 k7 hrow
        have hg5' : w2.cell? ⟨g, 5, none⟩ = some v := hg5
        rw [hv] at hg5'
        subst hv
        clear hg5
        go_wp2_with (at_builtin; refine wpList_app1 _ rfl _ _ 30 rfl w1.heap.size 26 (.slice none 0 0) 24 Tryd.underlying30 infoS8 rfl _ k (vsl o A' K') rfl (hT.kept (fresh_alloc _ _)) _ 1 rfl (hnew.out _ _) hone.out (by omega) (by omega) (by simp; omega) ?_)
        intro v' w6 hown' happ
        have fA := fresh_alloc w2 (.cells #[.slice na (o.Vl k + 64) nc] 26)
        have IN := hidd (HIL.out.next hgl hvq.out (fresh_trans hf2 fA) (by rw [hvk.out]; exact HN2.out.kept fA) hown' happ)
        have r6 := (I2.out.kept fA).row.of_block (happ.grown.block g (I2.out.kept fA).row.lt (fun e => I2.out.gv e.symm))
        have c5 := r6.cell (i := 5) (by decide)
        have f5 := r6.frozen
        obtain ⟨va', vc', rfl, _⟩ := hown'.rd'
        clear hT hnew hone HN2 I2 hg5' hg5f happ hown' fA r6 hvk hvq
        go_wp2
        go_roundw
        case rel => exact ⟨k + 1, _, A', K', by omega, by go_num, IN⟩
        case measure => simp [intOf]; omega
      · have hkn : k = o.nV := by omega
        obtain ⟨va, vc, hv, _⟩ := HIL.out.top.rd'
        rw [hkn] at hv
        subst hv
        rw [hkn] at HIL
        have hlow := HIL.out.low
        have HG := hidd (row6 HIL.out.row)
        have HN3 := hidd (show wr.heap[w.heap.size + 1]? = some (.cells #[.slice none 0 0, .slice none 0 0, .slice none 0 0, .slice none 0 0, .slice none 0 0, .slice none 0 0] 41 (0, 0)) by rw [hlow.block (w.heap.size + 1) (by have := HS1.out; omega)]; exact HN.out)
        clear hkn
        go_wp2_with (first | refine wpList_load_row rfl 41 _ rfl g rfl 41 _ (0, 0) _ HG.out Tryd.underlying41 rfl (by kernel_rfl) ?_ | refine wpList_store_row rfl 41 _ _ rfl (w.heap.size + 1) #[.slice aA (o.nA + 64) cA, .slice aB (o.nB + 64) cB, .slice aD (o.nD + 64) cD, .slice aX (o.nX + 64) cX, .slice aT (o.nT + 64) cT, .slice va o.nV vc] rfl rfl 41 #[.slice none 0 0, .slice none 0 0, .slice none 0 0, .slice none 0 0, .slice none 0 0, .slice none 0 0] HN3.out (by kernel_rfl) rfl (by kernel_rfl) ?_)
        have hne : ∀ (v : Value) (base : Nat) (e : TypeId) (sz n : Nat) (cs : Nat → Value), w1.heap.size ≤ base → Own wr base e sz v n cs → v.ownBlock ≠ some (w.heap.size + 1) := fun v base e sz n cs hb ho h => by have := (ho.lt _ h).1; have := HS1.out; omega
        have I := HIL.out
        refine bodyPost_ret (v := .agg #[.slice aA (o.nA + 64) cA, .slice aB (o.nB + 64) cB, .slice aD (o.nD + 64) cD, .slice aX (o.nX + 64) cX, .slice aT (o.nT + 64) cT, .slice va o.nV vc]) ?_ ?_ ?_
        · exact results_cell_row Tryd.results8 _ _ (w.heap.size + 1) 41 _ (0, 0) _ rfl (setRow_heap _ _ _ _ _ _ HN3.out) Tryd.underlying41 rfl (by kernel_rfl)
        · rfl
        · exact ⟨⟨aA, cA, aB, cB, aD, cD, aX, cX, aT, cT, va, vc, A, K⟩, rfl,
            ⟨(I.a.setRow (hne _ _ _ _ _ _ (Nat.le_refl _) I.a)).rda, (I.b.setRow (hne _ _ _ _ _ _ (Nat.le_refl _) I.b)).rda, (I.d.setRow (hne _ _ _ _ _ _ (Nat.le_refl _) I.d)).rda, (I.x.setRow (hne _ _ _ _ _ _ (Nat.le_refl _) I.x)).rda, (I.t.setRow (hne _ _ _ _ _ _ (Nat.le_refl _) I.t)).rda,
              ⟨(I.top.setRow (hne _ _ _ _ _ _ (Nat.le_refl _) I.top)).rda, fun q hq => ((I.rows q hq).setRow (hne _ _ _ _ _ _ (Nat.le_refl _) (I.rows q hq))).rda⟩⟩,
            below_setRow (fresh_trans hf0 hlow) (by omega) _⟩
end Go.Proofs.YtmcefgpejocjfaaDoor
