import Derived.Test.YtppcgfdogacmkaaPO
namespace Go.Proofs.Ytppcgfdogacmkaa
open Go.RowKit
/-! The ledger: Own, Share, what is held beside. -/
theorem Lg.ownT {x : Fx} {w : World} {s : Dy} {gl : Nat} {vF : Value} {nf : Nat} {fr : Nat → Nat} (h : Lg x w s gl vF nf fr) (hB : x.B ≤ 256) (hnf : nf ≤ 4611686017427387904) {i : Nat} (hi : i < 3) (n : Int) (hn : n ≤ 9223372036854775807) :
    Calls Try.prog 27 #[.pointer (some ⟨x.tb i, 0, none⟩), .int .i64 n] w fun e w' => ∃ k s', e = .returned (.int .i64 k) ∧ Lg x w' s' gl vF nf fr := by
  have htn : i < x.tn := by rw [h.tn]; exact hi
  have hlen := h.lk.len hi
  by_cases h0 : n < 0
  · refine (own_neg h0).mono ?_
    rintro e w' ⟨rfl, f⟩
    exact ⟨_, s, rfl, h.fresh f⟩
  · obtain ⟨n, rfl⟩ : ∃ k : Nat, n = k := ⟨n.toNat, by omega⟩
    have hT := h.st.T i htn
    by_cases hp : n / x.S < s.m i
    · have hold := h.lk.lt i hi _ hp
      have hpos := tms_pos hp (rfl : s.bl i (n / x.S) = s.bl i (n / x.S))
      have hge := h.lk.ge hi hold
      have hsm := h.lk.small hold
      obtain ⟨old, ho⟩ : ∃ old, old = s.bl i (n / x.S) := ⟨_, rfl⟩
      rw [← ho] at hold hpos hge hsm
      have hO : ∀ c, s.cnt old = c → OwnH w x.g x.cb x.nb 2 3 x.B x.S x.base (x.tb i) (s.m i) n old c s.cnt s.num (s.v i) (s.bl i) := fun c hc => ⟨h.st.P, hT, by omega, by omega, hp, ho.symm, hold, hc, by omega, ⟨h.st.lt.1, h.st.lt.2.1, h.st.lt.2.2.1, h.st.bs⟩⟩
      by_cases h1 : s.cnt old = 1
      · refine (own_one (hO 1 h1)).mono ?_
        rintro e w' ⟨rfl, f⟩
        exact ⟨_, s, rfl, h.fresh f⟩
      · obtain ⟨c, hc⟩ : ∃ c, s.cnt old = c := ⟨_, rfl⟩
        by_cases hf : freeN s.cnt x.B = 0
        · refine (own_full (hO c hc) (by omega) hf).mono ?_
          rintro e w' ⟨rfl, f⟩
          exact ⟨_, s, rfl, h.fresh f⟩
        · refine (own_copy (hO c hc) h.st.geo (by omega) (by omega)).mono ?_
          rintro e w' ⟨rfl, k1, k2, k3⟩
          have hlo := lowF_lt (c := s.cnt) (B := x.B) (by omega)
          have hlo0 := (lowF_spec s.cnt x.B).1 hlo
          have hno : ∀ j, j < s.m i → s.bl i j ≠ lowF s.cnt x.B := fun j hj e => by
            have a := h.lk.ge hi (h.lk.lt i hi j hj)
            have b := tms_pos hj (rfl : s.bl i j = s.bl i j)
            rw [e] at a b
            omega
          generalize lowF s.cnt x.B = lo at *
          refine ⟨_, _, rfl, h.step hi k2 k1 k3 (fun k hk => .inl hk) (fun j hj => ?_) (fun j k hj hk => ?_) (fun b hb => ?_)⟩
          · by_cases e : j = n / x.S
            · rw [e, updN_at]; exact hlo
            · rw [updN_ne _ _ e]; exact h.lk.lt i hi j hj
          · by_cases e : j = n / x.S
            · rw [e, updN_at, updN_ne _ _ (by omega)]
              exact fun k' => hno k hk k'.symm
            · rw [updN_ne _ _ e]
              by_cases e2 : k = n / x.S
              · rw [e2, updN_at]; exact hno j (by omega)
              · rw [updN_ne _ _ e2]; exact h.lk.ne i hi j k hj hk
          · have a := tms_upd (f := s.bl i) (b := b) (y := lo) hp
            rw [← ho] at a
            by_cases e1 : b = old
            · subst e1
              rw [if_pos rfl, if_neg (fun k => by rw [k] at hlo0; omega)] at a
              rw [updN_at]
              omega
            · rw [if_neg (fun k => e1 k.symm)] at a
              rw [updN_ne _ _ e1]
              by_cases e2 : b = lo
              · subst e2
                rw [if_pos rfl] at a
                rw [updN_at]
                omega
              · rw [if_neg (fun k => e2 k.symm)] at a
                rw [updN_ne _ _ e2]
                omega
    · refine (own_out hT h.st.P.hS (by omega) (by omega)).mono ?_
      rintro e w' ⟨rfl, f⟩
      exact ⟨_, s, rfl, h.fresh f⟩
theorem Lg.share {x : Fx} {w : World} {s : Dy} {gl : Nat} {vF : Value} {nf : Nat} {fr : Nat → Nat} (h : Lg x w s gl vF nf fr) (hB : x.B ≤ 256) (hnf : nf ≤ 4611686017427387000) {i j wb : Nat} (hi : i < 3) (hj : j < 3) {ao : Option Addr} {cap : Nat} (hO : Own w wb 3 1 (.slice ao (s.m j) cap) (s.m j) (fun q => .int .i64 (s.bl j q))) (hwb : x.base ≤ wb) (hvb : ∀ k, (s.v i).ownBlock = some k → k < wb) :
    Calls Try.prog 26 #[.pointer (some ⟨x.tb i, 0, none⟩), .slice ao (s.m j) cap] w fun e w' => ∃ k s', e = .returned (.int .i64 k) ∧ Lg x w' s' gl vF nf fr := by
  have htn : i < x.tn := by rw [h.tn]; exact hi
  have hlen := h.lk.len hj
  have hT := h.st.T i htn
  by_cases h0 : 0 < s.m i
  · obtain ⟨a1, k1, hv⟩ := hT.shape
    have c1 := (row3 hT.row).2.1
    rw [hv] at c1
    refine (share_not c1 h0 _).mono ?_
    rintro e w' ⟨rfl, rfl⟩
    exact ⟨_, s, rfl, h⟩
  · have hm0 : s.m i = 0 := by omega
    rw [hm0] at hT
    obtain ⟨a2, k2, hv2, hrd⟩ := hO.rd
    simp only [Value.slice.injEq] at hv2
    obtain ⟨rfl, _, rfl⟩ := hv2
    have hpos : ∀ q, q < s.m j → s.cnt (s.bl j q) ≠ 0 := fun q hq => by
      have a := h.lk.ge hj (h.lk.lt j hj q hq)
      have b := tms_pos hq (rfl : s.bl j q = s.bl j q)
      omega
    refine (share_ok h.st.P hT hrd (fun q hq => ⟨h.lk.lt j hj q hq, hpos q hq⟩) (h.lk.ne j hj) (by omega) (fun b hb => by have := h.lk.small hb; omega) h.st.lt.1 h.st.lt.2.1 h.st.lt.2.2.1 h.st.bs (fun b off e => ?_)).mono ?_
    · subst e
      rcases own_cases hO with ⟨k, _⟩ | ⟨g9, c9, k⟩
      · simp at k
      · simp only [Value.slice.injEq, Option.some.injEq, Addr.mk.injEq] at k
        obtain ⟨⟨rfl, _⟩, _⟩ := k
        have q := hO.lt b (by simp only [Value.ownBlock])
        have q1 := hT.lt
        have q2 := h.st.lt.2.1
        refine ⟨by omega, by omega, fun e => ?_, q.2⟩
        have := hvb _ e
        omega
    · rintro e w' ⟨rfl, v, k1, k2, k3, k4⟩
      refine ⟨_, _, rfl, h.step hi k2 k1 (k3.imp (fun b _ e => e.elim Or.inl (fun e => e.elim (fun e => Or.inr (Or.inl e)) (fun e => Or.inr (Or.inr (Or.inr e)))))) k4 (h.lk.lt j hj) (h.lk.ne j hj) (fun b hb => ?_)⟩
      rw [holdsC_eq b, hm0, tms_zero, Nat.add_zero]
theorem St.chg {x : Fx} {w w' : World} {s : Dy} (h : St x w s) {T : Nat → Prop} (c : Chg w w' T) (hT : ∀ b, T b → x.base ≤ b ∧ ∀ i, i < x.tn → (s.v i).ownBlock ≠ some b) : St x w' s := by
  have hl := h.lt
  refine ⟨h.P.chg c (fun e => ?_) (fun e => ?_) (fun e => ?_), fun i hi => (h.T i hi).chg c (fun e => ?_) (fun b hb e => (hT b e).2 i hi hb), c.row h.L (fun e => ?_), h.LF, h.ln, h.rise, h.off, c.below h.low h.low.size (fun b e => ?_), Nat.le_trans h.bs c.size, h.lt, h.new, h.newt⟩
  · have := (hT _ e).1; omega
  · have := (hT _ e).1; omega
  · have := (hT _ e).1; omega
  · have := (hT _ e).1; have := (h.T i hi).lt; omega
  · have := (hT _ e).1; omega
  · have := (hT _ e).1; have := h.new.2.2.2; omega
theorem row3_set2 {w : World} {b : Nat} {t : TypeId} {x y z u : Value} (h : w.rowIs b t 3 (three x y z)) : (w.setCell ⟨b, 2, none⟩ u).rowIs b t 3 (three x y u) :=
  (h.set 2 u).congr (fun i hi => by
    match i, hi with
    | 0, _ => rfl
    | 1, _ => rfl
    | 2, _ => rfl)
theorem comp_pool {x : Fx} {w w' : World} {s : Dy} {gl : Nat} {vF : Value} {nf : Nat} {fr : Nat → Nat} (st : St x w s) (row : w.rowIs gl 60 3 (three (.pointer (some ⟨x.g, 0, none⟩)) (.slice (some ⟨x.lb, 0, none⟩) 3 x.lc) vF)) (own : Own w x.base 3 1 vF nf (fun j => .int .i64 (fr j))) (_glb : x.base ≤ gl) {cnt : Nat → Nat} {num : Nat → Int} (hP : PoolAt w' x.g x.cb x.nb 2 3 x.B x.S cnt num) (c : Chg w w' (fun b => b = x.cb ∨ b = x.nb)) : St x w' { s with cnt := cnt, num := num } ∧ w'.rowIs gl 60 3 (three (.pointer (some ⟨x.g, 0, none⟩)) (.slice (some ⟨x.lb, 0, none⟩) 3 x.lc) vF) ∧ Own w' x.base 3 1 vF nf (fun j => .int .i64 (fr j)) := by
  refine ⟨st.pool hP c, c.row row ?_, Own.chg c own ?_⟩
  · have k1 := rowIs_apart row st.P.cnts (by decide)
    have k2 := rowIs_apart row st.P.nums (by decide)
    rintro (e | e)
    · exact k1 e
    · exact k2 e
  · rintro b hb (e | e)
    · have := (own.lt b hb).1
      have := st.lt.2.1
      omega
    · have := (own.lt b hb).1
      have := st.lt.2.2.1
      omega
theorem comp_push {x : Fx} {w1 w2 : World} {s : Dy} {gl n' : Nat} {vF v' : Value} {nf : Nat} {fr fr' : Nat → Nat} (st : St x w1 s) (row : w1.rowIs gl 60 3 (three (.pointer (some ⟨x.g, 0, none⟩)) (.slice (some ⟨x.lb, 0, none⟩) 3 x.lc) vF)) (own : Own w1 x.base 3 1 vF nf (fun j => .int .i64 (fr j))) (off : ∀ i, i < 3 → Off vF (s.v i)) (glb : x.base ≤ gl) (tn : x.tn = 3) (o : Obj) (hown : Own w2 x.base 3 1 v' n' (fun j => .int .i64 (fr' j))) (happ : App (w1.alloc o) w2 vF v') : St x (w2.setCell ⟨gl, 2, none⟩ v') s ∧ (w2.setCell ⟨gl, 2, none⟩ v').rowIs gl 60 3 (three (.pointer (some ⟨x.g, 0, none⟩)) (.slice (some ⟨x.lb, 0, none⟩) 3 x.lc) v') ∧ Own (w2.setCell ⟨gl, 2, none⟩ v') x.base 3 1 v' n' (fun j => .int .i64 (fr' j)) ∧ ∀ i, i < 3 → Off v' (s.v i) := by
  have fA := fresh_alloc w1 o
  have ca : Chg w1 w2 (fun b => vF.ownBlock = some b) := Chg.pre fA (Chg.of_app happ)
  have cs := Chg.of_set w2 gl 2 v'
  have k1 : ∀ b, vF.ownBlock = some b → x.base ≤ b := fun b e => (own.lt b e).1
  have st2 := st.chg ca (fun b e => ⟨k1 b e, fun i hi e2 => off i (by omega) b e e2⟩)
  have row2 := ca.row row (own.apart row (by decide))
  have st3 := st2.chg cs (fun b e => by subst e; exact ⟨glb, fun i hi => ((st2.T i hi).own.apart row2 (by decide))⟩)
  refine ⟨st3, row3_set2 row2, Own.chg cs hown (fun b hb e => by subst e; exact hown.apart row2 (by decide) hb), fun i hi b hb hb2 => ?_⟩
  rcases happ.blk b hb with e | e
  · exact off i hi b e hb2
  · have := ((st.T i (by omega)).own.lt b hb2).2
    have := fA.size
    omega
theorem lg_push {x : Fx} {w1 w2 : World} {s : Dy} {gl b : Nat} {vF v' : Value} {nf : Nat} {fr : Nat → Nat} (st : St x w1 s) (row : w1.rowIs gl 60 3 (three (.pointer (some ⟨x.g, 0, none⟩)) (.slice (some ⟨x.lb, 0, none⟩) 3 x.lc) vF)) (own : Own w1 x.base 3 1 vF nf (fun j => .int .i64 (fr j))) (off : ∀ i, i < 3 → Off vF (s.v i)) (glb : x.base ≤ gl) (tn : x.tn = 3) (lk : Lk x.B s.cnt s.m s.bl (nf + 1) (updN fr nf b)) (o : Obj) (hown : Own w2 x.base 3 1 v' (nf + 1) (fun j => .int .i64 (updN fr nf b j))) (happ : App (w1.alloc o) w2 vF v') : Lg x (w2.setCell ⟨gl, 2, none⟩ v') s gl v' (nf + 1) (updN fr nf b) := by
  have fA := fresh_alloc w1 o
  have ca : Chg w1 w2 (fun b => vF.ownBlock = some b) := Chg.pre fA (Chg.of_app happ)
  have cs := Chg.of_set w2 gl 2 v'
  have k1 : ∀ b, vF.ownBlock = some b → x.base ≤ b := fun b e => (own.lt b e).1
  have st2 := st.chg ca (fun b e => ⟨k1 b e, fun i hi e2 => off i (by omega) b e e2⟩)
  have row2 := ca.row row (own.apart row (by decide))
  have st3 := st2.chg cs (fun b e => by subst e; exact ⟨glb, fun i hi => ((st2.T i hi).own.apart row2 (by decide))⟩)
  refine ⟨st3, row3_set2 row2, Own.chg cs hown (fun b hb e => by subst e; exact hown.apart row2 (by decide) hb), fun i hi b hb hb2 => ?_, glb, tn, lk⟩
  rcases happ.blk b hb with e | e
  · exact off i hi b e hb2
  · have := ((st.T i (by omega)).own.lt b hb2).2
    have := fA.size
    omega
theorem lg_pop {x : Fx} {w1 : World} {s : Dy} {gl gb cap : Nat} {nf : Nat} {fr : Nat → Nat} (h : St x w1 s) (row : w1.rowIs gl 60 3 (three (.pointer (some ⟨x.g, 0, none⟩)) (.slice (some ⟨x.lb, 0, none⟩) 3 x.lc) (.slice (some ⟨gb, 0, none⟩) (nf + 1) cap))) (own : Own w1 x.base 3 1 (.slice (some ⟨gb, 0, none⟩) (nf + 1) cap) (nf + 1) (fun j => .int .i64 (fr j))) (glb : x.base ≤ gl) : St x (w1.setCell ⟨gl, 2, none⟩ (.slice (some ⟨gb, 0, none⟩) nf cap)) s ∧ (w1.setCell ⟨gl, 2, none⟩ (.slice (some ⟨gb, 0, none⟩) nf cap)).rowIs gl 60 3 (three (.pointer (some ⟨x.g, 0, none⟩)) (.slice (some ⟨x.lb, 0, none⟩) 3 x.lc) (.slice (some ⟨gb, 0, none⟩) nf cap)) ∧ Own (w1.setCell ⟨gl, 2, none⟩ (.slice (some ⟨gb, 0, none⟩) nf cap)) x.base 3 1 (.slice (some ⟨gb, 0, none⟩) nf cap) nf (fun j => .int .i64 (fr j)) := by
  have cs := Chg.of_set w1 gl 2 (.slice (some ⟨gb, 0, none⟩) nf cap)
  refine ⟨h.chg cs (fun b e => by subst e; exact ⟨glb, fun i hi => ((h.T i hi).own.apart row (by decide))⟩), row3_set2 row, Own.chg cs (Own.shrink own (by omega)) (fun b hb e => by subst e; exact own.apart row (by decide) hb)⟩
end Go.Proofs.Ytppcgfdogacmkaa
