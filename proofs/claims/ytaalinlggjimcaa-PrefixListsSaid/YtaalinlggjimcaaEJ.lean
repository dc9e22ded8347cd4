import Derived.Test.YtaalinlggjimcaaEM
namespace Go.Proofs.Ytaalinlggjimcaa
open Go.RowKit
/-! The reference's Keep. -/
theorem at_known {w : World} {base D pg : Nat} {v : Value} {L : List Nd} {S N N' : Nat} {Ta : Nat → Option Addr} {Tc : Nat → Nat} {c : Ca} (h : RcAt w base D pg v L S N Ta Tc) (hc : Cut S L) (hw : Well c L N') (hS : 1 ≤ S ∧ S ≤ 16) {tO : Option Addr} {q cap : Nat} {t : Nat → Int} (ht : RdA w tO 1 (q * S) cap (fun j => .int .i64 (t j))) {i : Nat} (hi : i < L.length) (hp : (ndAt L i).path = pcL t S q) :
    Calls Try.prog 59 #[.pointer (some ⟨D, 0, none⟩), .slice tO (q * S) cap] w fun e w' => e = .returned (.int .i64 (i : Int)) ∧ Below w.heap.size w w' := by
  refine (at_any h hc hS ht).mono ?_
  rintro e w' ⟨⟨k, rfl, hs⟩, hf⟩
  refine ⟨?_, hf⟩
  rcases hs with ⟨_, hno⟩ | ⟨j, rfl, hj, e⟩
  · exact absurd hp (hno _ (ndAt_mem hi))
  · have := ndAt_inj hw.nodup hj hi (hw.dpath _ (ndAt_mem hj) _ (ndAt_mem hi) (e.trans hp.symm))
    rw [this]
theorem at_none {w : World} {base D pg : Nat} {v : Value} {L : List Nd} {S N : Nat} {Ta : Nat → Option Addr} {Tc : Nat → Nat} (h : RcAt w base D pg v L S N Ta Tc) (hc : Cut S L) (hS : 1 ≤ S ∧ S ≤ 16) {tO : Option Addr} {q cap : Nat} {t : Nat → Int} (ht : RdA w tO 1 (q * S) cap (fun j => .int .i64 (t j))) (hno : ∀ z ∈ L, z.path ≠ pcL t S q) :
    Calls Try.prog 59 #[.pointer (some ⟨D, 0, none⟩), .slice tO (q * S) cap] w fun e w' => e = .returned (.int .i64 (-1)) ∧ Below w.heap.size w w' := by
  refine (at_any h hc hS ht).mono ?_
  rintro e w' ⟨⟨k, rfl, hs⟩, hf⟩
  refine ⟨?_, hf⟩
  rcases hs with ⟨rfl, _⟩ | ⟨j, rfl, hj, e⟩
  · rfl
  · exact absurd e (hno _ (ndAt_mem hj))
def BadK (L : List Nd) (cnt : Nat → Nat) (B : Nat) (g : Nat → Int) (m n k : Nat) : Prop :=
  m < n ∨ (∃ i, i < n ∧ cntI cnt B (g i) = 0) ∨ ∃ i, k ≤ i ∧ i < n ∧ ((∃ z ∈ L, (z.blk : Int) = g i) ∨ ∃ j, i < j ∧ j < n ∧ g j = g i)
structure Rkp (w wr : World) (R : Nat → Prop) (D : Nat) (L : List Nd) (n1 : Nat) (x : Rx) (y : Ry) (P : List (List Int)) (gn : Nat → Nat) (k i : Nat) (R' : Nat → Prop) (v' : Value) (Ta' : Nat → Option Addr) (Tc' : Nat → Nat) : Prop where
  rc : RcF wr R' D x.g v' (Mi L P gn k i n1) x.S n1 Ta' Tc'
  ref : RefAt wr x { y with cnt := addC y.cnt gn k (i - k) }
  off : Offs R' x y
  chg : Chg w wr (fun z => R z ∨ z = x.cb)
  up : ∀ z, R z → R' z
  dn : ∀ z, R' z → R z ∨ w.heap.size ≤ z
theorem Rkp.fresh {w wr wq : World} {R : Nat → Prop} {D : Nat} {L : List Nd} {n1 : Nat} {x : Rx} {y : Ry} {P : List (List Int)} {gn : Nat → Nat} {k i : Nat} {R' : Nat → Prop} {v' : Value} {Ta' : Nat → Option Addr} {Tc' : Nat → Nat} (h : Rkp w wr R D L n1 x y P gn k i R' v' Ta' Tc') (f : Below wr.heap.size wr wq) : Rkp w wq R D L n1 x y P gn k i R' v' Ta' Tc' :=
  ⟨h.rc.fresh f, h.ref.fresh f, h.off, h.chg.post f, h.up, h.dn⟩
def KeepP (w : World) (R : Nat → Prop) (D : Nat) (L : List Nd) (n1 : Nat) (x : Rx) (y : Ry) (P : List (List Int)) (g : Nat → Int) (gn : Nat → Nat) (m n k : Nat) (e : Ending) (w' : World) : Prop :=
  (e = .returned (.int .i64 61) ∧ BadK L y.cnt x.B g m n k ∧ Below w.heap.size w w') ∨ (e = .returned (.int .i64 0) ∧ ¬ BadK L y.cnt x.B g m n k ∧ ∃ R' v' Ta' Tc', Rkp w w' R D L n1 x y P gn k n R' v' Ta' Tc')
/-- one more kept -/
theorem Rkp.push {w wr w10 W0 w11 : World} {R R' : Nat → Prop} {D : Nat} {L M : List Nd} {n1 : Nat} {x : Rx} {y : Ry} {P : List (List Int)} {gn : Nat → Nat} {k i C bb oo m1 : Nat} {v v' : Value} {Ta' : Nat → Option Addr} {Tc' : Nat → Nat} {u : Option Addr} {uc : Nat} {yN : Nd}
    (hl : Long C L P k bb oo) (hk : k ≤ i) (hi : i + 1 ≤ P.length) (hM : M = Mi L P gn k i n1) (hyN : yN = ⟨P.take (i + 1), gn i, n1, 0⟩) (hyl : yN.path.length * x.S = m1)
    (rc : RcF W0 R' D x.g v M x.S n1 Ta' Tc') (ref : RefAt w10 x { y with cnt := addC y.cnt gn k (i + 1 - k) }) (chg : Chg w w10 (fun z => R z ∨ z = x.cb)) (txt : Own w10 wr.heap.size 3 1 (.slice u m1 uc) m1 (fun j => .int .i64 (tokF x.S yN.path j))) (fD : Below w10.heap.size w10 W0)
    (hs : w.heap.size ≤ wr.heap.size) (hs2 : wr.heap.size ≤ w10.heap.size) (o : Offs R' x y) (lo : Offs (fun z => wr.heap.size ≤ z) x y) (up : ∀ z, R z → R' z) (dn : ∀ z, R' z → R z ∨ w.heap.size ≤ z)
    (happ : App W0 w11 v v') (hown : Own w11 0 106 3 v' (M.length + 1) (knc (M ++ [yN]) x.S (putY Ta' M.length u) (putY Tc' M.length uc))) :
    Rkp w (w11.setCell ⟨D, 1, none⟩ v') R D L n1 x y P gn k (i + 1) (fun z => R' z ∨ v'.ownBlock = some z ∨ (Value.slice u (yN.path.length * x.S) uc).ownBlock = some z) v' (putY Ta' M.length u) (putY Tc' M.length uc) := by
  have txt0 : Own W0 wr.heap.size 3 1 (.slice u (yN.path.length * x.S) uc) (yN.path.length * x.S) (fun j => .int .i64 (tokF x.S yN.path j)) := by
    rw [hyl]; exact txt.kept fD
  have pp := rc.push txt0 happ hown
  have hMe : M ++ [yN] = Mi L P gn k (i + 1) n1 := by rw [hM, hyN]; exact Mi_new hl hk hi
  have ka := Chg.of_app happ
  have kD := Chg.of_set w11 D 1 v'
  have sf := fD.size
  have hv : ∀ z, v'.ownBlock = some z → R' z ∨ wr.heap.size ≤ z := fun z hz => by
    rcases happ.blk z hz with e | e
    · exact .inl (rc.rV z e)
    · exact .inr (by omega)
  have hn : ∀ z, (R' z ∨ v'.ownBlock = some z ∨ (Value.slice u (yN.path.length * x.S) uc).ownBlock = some z) → R' z ∨ wr.heap.size ≤ z := fun z hz => by
    rcases hz with hz | hz | hz
    · exact .inl hz
    · exact hv z hz
    · exact .inr (txt0.lt z hz).1
  have ref11 : RefAt (w11.setCell ⟨D, 1, none⟩ v') x { y with cnt := addC y.cnt gn k (i + 1 - k) } := by
    have r1 : RefAt w11 x { y with cnt := addC y.cnt gn k (i + 1 - k) } := (ref.fresh fD).chg ka (fun e => o.g (rc.rV _ e)) (fun e => o.cb (rc.rV _ e)) (fun e => o.kb (rc.rV _ e)) (fun e => o.vb (rc.rV _ e)) (fun i hi e => o.ka i hi (rc.rV _ e)) (fun i hi e => o.va i hi (rc.rV _ e))
    exact r1.chg kD (fun e => o.g (by rw [e]; exact rc.rD)) (fun e => o.cb (by rw [e]; exact rc.rD)) (fun e => o.kb (by rw [e]; exact rc.rD)) (fun e => o.vb (by rw [e]; exact rc.rD)) (fun i hi e => o.ka i hi (by rw [e]; exact rc.rD)) (fun i hi e => o.va i hi (by rw [e]; exact rc.rD))
  refine ⟨by rw [← hMe]; exact pp, ref11, ⟨fun e => (hn _ e).elim o.g lo.g, fun e => (hn _ e).elim o.cb lo.cb, fun e => (hn _ e).elim o.kb lo.kb, fun e => (hn _ e).elim o.vb lo.vb, fun i hi e => (hn _ e).elim (o.ka i hi) (lo.ka i hi), fun i hi e => (hn _ e).elim (o.va i hi) (lo.va i hi)⟩, ?_, fun z hz => .inl (up z hz), fun z hz => ?_⟩
  · refine ((chg.post fD).trans ka (fun z hz e => ?_)).trans kD (fun z hz e => ?_)
    · rcases dn z (rc.rV z e) with r | r
      · exact .inl r
      · omega
    · rcases dn D rc.rD with r | r
      · rw [e]; exact .inl r
      · omega
  · rcases hn z hz with r | r
    · exact dn z r
    · exact .inr (by omega)
set_option maxRecDepth 20000 in
set_option maxHeartbeats 6400000 in
theorem rkeep_any {w : World} {R : Nat → Prop} {D : Nat} {v : Value} {L : List Nd} {N N' : Nat} {Ta : Nat → Option Addr} {Tc : Nat → Nat} {c : Ca} {x : Rx} {y : Ry} (h : RcF w R D x.g v L x.S N Ta Tc) (hp : RefAt w x y) (ho : Offs R x y) (hc : Cut x.S L) (hw : Well c L N') (hcB : c.B = x.B) (hN : N ≤ 4611686018427387904)
    {tO : Option Addr} {T cap : Nat} {t : Nat → Int} (ht : RdA w tO 1 T cap (fun j => .int .i64 (t j))) (hto : 0 < T → ∀ b off, tO = some ⟨b, off, none⟩ → ¬ (R b ∨ b = x.cb)) (hTs : T ≤ 2147483647)
    {bO : Option Addr} {m bcap : Nat} {g : Nat → Int} (hb : RdA w bO 1 m bcap (fun j => .int .i64 (g j))) (hbo : 0 < m → ∀ b off, bO = some ⟨b, off, none⟩ → ¬ (R b ∨ b = x.cb)) {n : Nat} (hn : n = T / x.S) {k bb oo : Nat} (hl : Long c.C L (pcL t x.S n) k bb oo) (hcnt : ∀ b, y.cnt b ≤ 1152921504606846976) :
    Calls Try.prog 30 #[.pointer (some ⟨D, 0, none⟩), .slice tO T cap, .slice bO m bcap] w (KeepP w R D L (N + 1) x y (pcL t x.S n) g (fun i => (g i).toNat) m n k) := by
  have hS := hp.hS
  have hz : ¬ (x.S : Int) = 0 := by omega
  have hq : ((T : Int).tdiv (x.S : Int)) = (n : Int) := by rw [Int.tdiv_eq_ediv_of_nonneg (by omega), hn]; push_cast; rfl
  have hnT : n ≤ T := by rw [hn]; exact Nat.div_le_self _ _
  have hnS : ∀ i, i < n → (i + 1) * x.S ≤ T := fun i hi => by
    have h1 := Nat.mul_le_mul_right x.S (show i + 1 ≤ T / x.S by omega)
    have := Nat.div_mul_le_self T x.S
    omega
  have hcap := ht.le
  have hcap2 : cap ≤ 9223372036854775807 := by have := ht.top; unfold maxLen at this; omega
  have hbcap := hb.le
  have hbcap2 : bcap ≤ 9223372036854775807 := by have := hb.top; unfold maxLen at this; omega
  have hkn : k ≤ n := by have := hl.le; rw [pcL_len] at this; exact this
  have d0 : w.cell? ⟨D, 0, none⟩ = some (.pointer (some ⟨x.g, 0, none⟩)) := h.at_.row.cell (i := 0) (by decide)
  obtain ⟨n1, hn1⟩ : ∃ n1, n1 = N + 1 := ⟨_, rfl⟩
  have e1 : (N : Int) + 1 = (n1 : Int) := by omega
  have hnl : n1 ≤ 4611686018427387905 := by omega
  rw [← hn1]
  have HSZ := hidd (rsize_any h.at_ hp)
  have HH := hidd (And.intro h (And.intro hp (And.intro ho (And.intro hc (And.intro hw hl)))))
  have HT := hidd (And.intro ht hto)
  have HB := hidd (And.intro hb hbo)
  have HNS := hidd hnS
  have HC := hidd hcnt
  clear h hp ho hc hw hl ht hto hb hbo hnS hn hn1 hcnt
  by_cases hm : m < n
  · have hmd : decide ((m : Int) < (n : Int)) = true := by simp; omega
    go_enter Try.func30, Try.ntmps30
    go_wp2_with (go_at_call 57; with_reducible refine HSZ.out.mono ?_; rintro e w5 ⟨rfl, f5⟩)
    go_ret
    exact .inl ⟨rfl, .inl hm, f5⟩
  · have hmd : decide ((m : Int) < (n : Int)) = false := by simp; omega
    go_enter Try.func30, Try.ntmps30
    go_wp2_with (go_at_call 57; with_reducible refine HSZ.out.mono ?_; rintro e w5 ⟨rfl, f5⟩)
    clear HSZ
    go_loopw [9] (fun vi wr => ∃ i : Nat, i ≤ n ∧ vi = .int .i64 (i : Int) ∧ Hid (∀ j, j < i → cntI y.cnt x.B (g j) ≠ 0) ∧ Below w.heap.size w wr) (fun vi _ => n - (intOf vi).toNat)
    case atStart => exact ⟨0, by omega, rfl, fun j hj => absurd hj (by omega), f5⟩
    case round =>
      clear f5
      obtain ⟨i, hi, rfl, HZ, hf⟩ := hrel
      by_cases hlt : i < n
      · obtain ⟨b, off, rfl, hbc⟩ := HB.out.1.one (by omega)
        have db := fresh_cell hf (hbc i (by omega))
        have dd := fresh_cell hf d0
        have ld := later_cell dd
        have lb := later_cell db
        obtain ⟨q, HQ⟩ : ∃ q, Hid (q = cntI y.cnt x.B (g i)) := ⟨_, rfl⟩
        have HCN : Hid (∀ z : Later wr, Calls Try.prog 58 #[.pointer (some ⟨x.g, 0, none⟩), .int .i64 (g i)] z.val fun e w' => e = .returned (.int .i64 (q : Nat)) ∧ w' = z.val) := fun z => by
          have := rcount_any (HH.out.2.1.fresh (hf.trans (z.fresh.mono hf.size))) (g i)
          rw [← HQ.out] at this
          exact this
        have i0 : (0 : Int) ≤ (i : Int) := by omega
        have i1 : (i : Int) < (m : Int) := by omega
        have ne := later_some wr
        clear hbc
        generalize g i = gi at db lb HCN
        by_cases hq0 : q = 0
        · subst hq0
          go_wp2
          refine wp_region_later (by kernel_rfl) (by kernel_rfl) ?_
          repeat (go_big_quiet_step (fail))
          go_big_quiet_step (exact later_same (HCN.out _))
          repeat (go_big_quiet_step (fail))
          refine wpQuiet_nil ?_
          rintro _ ⟨z, rfl⟩
          have hz := z.fresh
          go_wp2
          go_ret
          exact .inl ⟨rfl, .inr (.inl ⟨i, hlt, HQ.out.symm⟩), fresh_trans hf hz⟩
        · have hqb : ((q : Int) == 0) = false := by simp; omega
          go_wp2
          refine wp_region_later (by kernel_rfl) (by kernel_rfl) ?_
          repeat (go_big_quiet_step (fail))
          go_big_quiet_step (exact later_same (HCN.out _))
          repeat (go_big_quiet_step (fail))
          refine wpQuiet_nil ?_
          rintro _ ⟨z, rfl⟩
          have hz := z.fresh
          go_wp2
          go_roundw
          case rel => exact ⟨i + 1, by omega, by go_num, fun j hj => (by
            by_cases e : j = i
            · rw [e, ← HQ.out]; exact hq0
            · exact HZ.out j (by omega)), fresh_trans hf hz⟩
          case measure => simp [intOf]; omega
      · obtain rfl : n = i := by omega
        go_wp2
        go_loopw [10] (fun vi wr => ∃ i : Nat, i ≤ n ∧ vi = .int .i64 (i : Int) ∧ Hid (∀ a, k ≤ a → a < i → ¬ ((∃ z ∈ L, (z.blk : Int) = g a) ∨ ∃ j, a < j ∧ j < n ∧ g j = g a)) ∧ Below w.heap.size w wr) (fun vi _ => n - (intOf vi).toNat)
        case atStart => exact ⟨0, by omega, rfl, fun j _ hj => absurd hj (by omega), hf⟩
        case round =>
          clear hf hlt hi
          obtain ⟨i, hi, rfl, HY, hf⟩ := hrel
          by_cases hlt : i < n
          · obtain ⟨b, off, rfl, hbc⟩ := HB.out.1.one (by omega)
            obtain ⟨tb, toff, rfl, _⟩ := HT.out.1.one (by omega)
            have db := fresh_cell hf (hbc i (by omega))
            have lb := later_cell db
            have h1S := HNS.out i hlt
            obtain ⟨m1, hm1⟩ : ∃ m1, m1 = (i + 1) * x.S := ⟨_, rfl⟩
            rw [← hm1] at h1S
            have hmul : ((i : Int) + 1) * (x.S : Int) = (m1 : Int) := by rw [hm1]; push_cast; rfl
            have hPC : pcL t x.S (i + 1) = (pcL t x.S n).take (i + 1) := (pcL_take t x.S (by omega)).symm
            have i0 : (0 : Int) ≤ (i : Int) := by omega
            have i1 : (i : Int) < (m : Int) := by omega
            have j0 : (0 : Int) ≤ (m1 : Int) := by omega
            have j1 : (m1 : Int) ≤ (cap : Int) := by omega
            have ne := later_some wr
            by_cases hik : i < k
            · obtain ⟨zz, hzz, ezz⟩ := HH.out.2.2.2.2.2.at HH.out.2.2.2.2.1 hik
              obtain ⟨a, ha, rfl⟩ := mem_ndAt hzz
              have HA1 : Hid (∀ z : Later wr, Calls Try.prog 59 #[.pointer (some ⟨D, 0, none⟩), .slice (some ⟨tb, toff, none⟩) m1 cap] z.val fun e w' => e = .returned (.int .i64 (a : Int)) ∧ Below z.val.heap.size z.val w') := fun z => by
                have fz := hf.trans (z.fresh.mono hf.size)
                rw [hm1]
                refine at_known (HH.out.1.fresh fz).at_ HH.out.2.2.2.1 HH.out.2.2.2.2.1 hS (q := i + 1) ?_ ha (by rw [ezz, hPC])
                rw [← hm1]
                exact (HT.out.1.part h1S).fresh fz
              have had : decide ((a : Int) < 0) = false := by simp
              clear hbc hm1 ezz hzz hPC
              go_wp2
              refine wp_region_later (by kernel_rfl) (by kernel_rfl) ?_
              repeat (go_big_quiet_step (fail))
              go_big_quiet_step (exact later_of (HA1.out _))
              repeat (go_big_quiet_step (fail))
              refine wpQuiet_nil ?_
              rintro _ ⟨z, rfl⟩
              have hz := z.fresh
              go_wp2
              go_roundw
              case rel => exact ⟨i + 1, by omega, by go_num, fun a ha1 ha2 => HY.out a ha1 (by omega), fresh_trans hf hz⟩
              case measure => simp [intOf]; omega
            · have HA1 : Hid (∀ z : Later wr, Calls Try.prog 59 #[.pointer (some ⟨D, 0, none⟩), .slice (some ⟨tb, toff, none⟩) m1 cap] z.val fun e w' => e = .returned (.int .i64 (-1)) ∧ Below z.val.heap.size z.val w') := fun z => by
                have fz := hf.trans (z.fresh.mono hf.size)
                rw [hm1]
                refine at_none (HH.out.1.fresh fz).at_ HH.out.2.2.2.1 hS (q := i + 1) ?_ (fun y hy e => HH.out.2.2.2.2.2.no (i + 1) (by omega) (by rw [pcL_len]; omega) y hy (by rw [e, hPC]))
                rw [← hm1]
                exact (HT.out.1.part h1S).fresh fz
              have HHS : ∀ r : Bool, (r = true ↔ ∃ y ∈ L, (y.blk : Int) = g i) → Hid (∀ z : Later wr, Calls Try.prog 60 #[.pointer (some ⟨D, 0, none⟩), .int .i64 (g i)] z.val fun e w' => e = .returned (.bool r) ∧ w' = z.val) := fun r hr z => by
                have fz := hf.trans (z.fresh.mono hf.size)
                refine (has_any (HH.out.1.fresh fz).at_ (g i)).mono ?_
                rintro e w' ⟨⟨r', rfl, hr'⟩, hw'⟩
                refine ⟨?_, hw'⟩
                have h5 : (r' = true ↔ r = true) := hr'.trans hr.symm
                cases r <;> cases r' <;> first | rfl | exact absurd (h5.1 rfl) (by decide) | exact absurd (h5.2 rfl) (by decide)
              have HAM : ∀ r : Bool, (r = true ↔ ∃ j, i < j ∧ j < n ∧ g j = g i) → Hid (∀ (z : Later wr) (ao : Option Addr), (i + 1 < n → ao = some ⟨b, off + (i + 1), none⟩) → Calls Try.prog 61 #[.slice ao (n - (i + 1)) (bcap - (i + 1)), .int .i64 (g i)] z.val fun e w' => e = .returned (.bool r) ∧ w' = z.val) := fun r hr z ao hao => by
                have fz := hf.trans (z.fresh.mono hf.size)
                refine (among_any (w := z.val) (ao := ao) (n := n - (i + 1)) (ca := bcap - (i + 1)) (f := fun j => g (i + 1 + j)) ⟨by omega, by unfold maxLen; omega, fun h0 => ⟨b, off + (i + 1), hao (by omega), fun j hj => ?_⟩⟩ (g i)).mono ?_
                · have := fresh_cell fz (hbc (i + 1 + j) (by omega))
                  rw [Nat.add_assoc]
                  exact this
                · rintro e w' ⟨⟨r', rfl, hr'⟩, hw'⟩
                  refine ⟨?_, hw'⟩
                  have h5 : (r' = true ↔ r = true) := hr'.trans (Iff.trans ⟨fun ⟨j, h1, h2⟩ => ⟨i + 1 + j, by omega, by omega, h2⟩, fun ⟨j, h1, h2, h3⟩ => ⟨j - (i + 1), by omega, by rw [show i + 1 + (j - (i + 1)) = j by omega]; exact h3⟩⟩ hr.symm)
                  cases r <;> cases r' <;> first | rfl | exact absurd (h5.1 rfl) (by decide) | exact absurd (h5.2 rfl) (by decide)
              have n0 : (0 : Int) ≤ (n : Int) := by omega
              have n2 : (n : Int) ≤ (bcap : Int) := by omega
              clear hbc hm1 hPC
              by_cases hhas : ∃ y ∈ L, (y.blk : Int) = g i
              · have HH1 := HHS true ⟨fun _ => hhas, fun _ => rfl⟩
                have HBD := hidd hhas
                clear HHS HAM hhas
                generalize g i = gi at db lb HH1
                go_wp2
                refine wp_region_later (by kernel_rfl) (by kernel_rfl) ?_
                repeat (go_big_quiet_step (fail))
                go_big_quiet_step (exact later_of (HA1.out _))
                repeat (go_big_quiet_step (fail))
                go_big_quiet_step (exact later_same (HH1.out _))
                repeat (go_big_quiet_step (fail))
                refine wpQuiet_nil ?_
                rintro _ ⟨z, rfl⟩
                have hz := z.fresh
                go_wp2
                go_ret
                exact .inl ⟨rfl, .inr (.inr ⟨i, by omega, hlt, .inl HBD.out⟩), fresh_trans hf hz⟩
              · have HH1 := HHS false ⟨fun e => (by cases e), fun e => absurd e hhas⟩
                have HBD := hidd hhas
                clear HHS hhas
                obtain ⟨i2, hi2⟩ : ∃ i2, i2 = i + 1 := ⟨_, rfl⟩
                have e9 : (i : Int) + 1 = (i2 : Int) := by omega
                have e10 : (i2 : Int) * (x.S : Int) = (m1 : Int) := by rw [← e9]; exact hmul
                have e11 : (i2 : Int) ≤ (n : Int) := by omega
                have e12 : (0 : Int) ≤ (i2 : Int) := by omega
                have e13 : i2 ≤ n := by omega
                rw [← hi2] at HAM
                clear hmul
                by_cases ham : ∃ j, i < j ∧ j < n ∧ g j = g i
                · have HM1 := HAM true ⟨fun _ => ham, fun _ => rfl⟩
                  have HBM := hidd ham
                  have hin : i2 < bcap := by obtain ⟨j, h1, h2, _⟩ := ham; omega
                  clear HAM ham hi2
                  generalize g i = gi at db lb HH1 HM1
                  go_wp2
                  refine wp_region_later (by kernel_rfl) (by kernel_rfl) ?_
                  repeat (go_big_quiet_step (fail))
                  go_big_quiet_step (exact later_of (HA1.out _))
                  repeat (go_big_quiet_step (fail))
                  go_big_quiet_step (exact later_same (HH1.out _))
                  repeat (go_big_quiet_step (fail))
                  go_big_quiet_step (exact later_same (HM1.out _ _ (fun _ => rfl)))
                  repeat (go_big_quiet_step (fail))
                  refine wpQuiet_nil ?_
                  rintro _ ⟨z, rfl⟩
                  have hz := z.fresh
                  go_wp2
                  go_ret
                  exact .inl ⟨rfl, .inr (.inr ⟨i, by omega, hlt, .inr HBM.out⟩), fresh_trans hf hz⟩
                · have HM1 := HAM false ⟨fun e => (by cases e), fun e => absurd e ham⟩
                  have HBM := hidd ham
                  clear HAM ham hi2
                  have HST : Hid (∀ a, k ≤ a → a < i + 1 → ¬ ((∃ z ∈ L, (z.blk : Int) = g a) ∨ ∃ j, a < j ∧ j < n ∧ g j = g a)) := fun a h1 h2 => by
                    by_cases e : a = i
                    · rw [e]; exact fun q => q.elim HBD.out HBM.out
                    · exact HY.out a h1 (by omega)
                  generalize g i = gi at db lb HH1 HM1
                  by_cases hin : i2 < bcap
                  · go_wp2
                    refine wp_region_later (by kernel_rfl) (by kernel_rfl) ?_
                    repeat (go_big_quiet_step (fail))
                    go_big_quiet_step (exact later_of (HA1.out _))
                    repeat (go_big_quiet_step (fail))
                    go_big_quiet_step (exact later_same (HH1.out _))
                    repeat (go_big_quiet_step (fail))
                    go_big_quiet_step (exact later_same (HM1.out _ _ (fun _ => rfl)))
                    repeat (go_big_quiet_step (fail))
                    refine wpQuiet_nil ?_
                    rintro _ ⟨z, rfl⟩
                    have hz := z.fresh
                    go_wp2
                    go_roundw
                    case rel => exact ⟨i + 1, by omega, by go_num, HST.out, fresh_trans hf hz⟩
                    case measure => simp [intOf]; omega
                  · obtain rfl : bcap = i2 := by omega
                    obtain rfl : n = bcap := by omega
                    rw [Nat.sub_self] at HM1
                    go_wp2
                    refine wp_region_later (by kernel_rfl) (by kernel_rfl) ?_
                    repeat (go_big_quiet_step (fail))
                    go_big_quiet_step (exact later_of (HA1.out _))
                    repeat (go_big_quiet_step (fail))
                    go_big_quiet_step (exact later_same (HH1.out _))
                    repeat (go_big_quiet_step (fail))
                    go_big_quiet_step (exact later_same (HM1.out _ _ (fun e => absurd e (Nat.lt_irrefl _))))
                    repeat (go_big_quiet_step (fail))
                    refine wpQuiet_nil ?_
                    rintro _ ⟨z, rfl⟩
                    have hz := z.fresh
                    go_wp2
                    go_roundw
                    case rel => exact ⟨i + 1, by omega, by go_num, HST.out, fresh_trans hf hz⟩
                    case measure => simp [intOf]; omega
          · obtain rfl : n = i := by omega
            have d2 : wr.cell? ⟨D, 2, none⟩ = some (.int .i64 N) := fresh_cell hf (HH.out.1.at_.row.cell (i := 2) (by decide))
            have fz := (HH.out.1.fresh hf).at_.row.frozen
            have HNB : Hid (¬ BadK L y.cnt x.B g m n k) := fun q => by
              rcases q with q | ⟨i, h1, h2⟩ | ⟨i, h1, h2, h3⟩
              · exact hm q
              · exact HZ.out i h1 h2
              · exact HY.out i h1 h2 h3
            have HGN : Hid (∀ i, i < n → g i = ((g i).toNat : Int) ∧ (g i).toNat < x.B ∧ y.cnt (g i).toNat ≠ 0) := fun i hi => by
              have := HZ.out i hi
              unfold cntI at this
              by_cases e : 0 ≤ g i ∧ g i < x.B
              · rw [if_pos e] at this
                exact ⟨by omega, by omega, this⟩
              · rw [if_neg e] at this
                exact absurd rfl this
            have kD := Chg.of_set wr D 2 (.int .i64 n1)
            have HS7 : Hid (Rkp w (wr.setCell ⟨D, 2, none⟩ (.int .i64 n1)) R D L n1 x y (pcL t x.S n) (fun i => (g i).toNat) k 0 R v Ta Tc) := by
              have R9 := HH.out.1.fresh hf
              have o := HH.out.2.2.1
              refine ⟨?_, ?_, o, ?_, fun _ h => h, fun _ h => .inl h⟩
              · rw [Mi_zero]
                exact ⟨R9.at_.tick n1, R9.rD, R9.rV, R9.rT, fun z hz => Nat.lt_of_lt_of_le (R9.low z hz) kD.size⟩
              · rw [Nat.zero_sub]
                exact (HH.out.2.1.fresh hf).off o (kD.imp (fun b _ e => by rw [e]; exact R9.rD))
              · exact (Chg.of_below _ hf).trans kD (fun z _ e => by rw [e]; exact .inl R9.rD)
            clear kD HZ HY hf hlt hi
            go_wp2
            go_loopw [11, 12, 13] (fun vi _ _ wr => ∃ (i : Nat) (R' : Nat → Prop) (v' : Value) (Ta' : Nat → Option Addr) (Tc' : Nat → Nat), i ≤ n ∧ vi = .int .i64 (i : Int) ∧ Hid (Rkp w wr R D L n1 x y (pcL t x.S n) (fun i => (g i).toNat) k i R' v' Ta' Tc')) (fun vi _ _ _ => n - (intOf vi).toNat)
            case atStart => exact ⟨0, R, v, Ta, Tc, by omega, rfl, HS7.out⟩
            case round =>
              clear HS7 d2 fz
              obtain ⟨i, R', v', Ta', Tc', hi, rfl, HK⟩ := hrel
              by_cases hlt : i < n
              · obtain ⟨b, off, rfl, hbc⟩ := HB.out.1.one (by omega)
                obtain ⟨tb, toff, rfl, _⟩ := HT.out.1.one (by omega)
                have h1S := HNS.out i hlt
                obtain ⟨m1, hm1⟩ : ∃ m1, m1 = (i + 1) * x.S := ⟨_, rfl⟩
                rw [← hm1] at h1S
                have hmul : ((i : Int) + 1) * (x.S : Int) = (m1 : Int) := by rw [hm1]; push_cast; rfl
                have hPC : pcL t x.S (i + 1) = (pcL t x.S n).take (i + 1) := (pcL_take t x.S (by omega)).symm
                have HPC := hidd (And.intro hm1 hPC)
                have i0 : (0 : Int) ≤ (i : Int) := by omega
                have i1 : (i : Int) < (m : Int) := by omega
                have j0 : (0 : Int) ≤ (m1 : Int) := by omega
                have j1 : (m1 : Int) ≤ (cap : Int) := by omega
                have hm1T : m1 ≤ 2147483647 := by omega
                have HCP := hidd (copyI_own ((HT.out.1.part h1S).chg HK.out.chg (HT.out.2 (by omega))) (by omega))
                by_cases hik : i < k
                · have HAT : Hid (∀ w8 u uc, Below wr.heap.size wr w8 → Own w8 wr.heap.size 3 1 (.slice u m1 uc) m1 (fun j => .int .i64 (t j)) → Calls Try.prog 59 #[.pointer (some ⟨D, 0, none⟩), .slice u m1 uc] w8 fun e w' => (∃ a : Nat, e = .returned (.int .i64 (a : Int)) ∧ a < L.length ∧ (ndAt L a).path = (pcL t x.S n).take (i + 1)) ∧ Below w8.heap.size w8 w') := fun w8 u uc f8 hu => by
                    obtain ⟨uo, ucc, eu, hr⟩ := hu.rd
                    injection eu with eu1 _ eu2
                    subst eu1 eu2
                    have hrc := (HK.out.rc.fresh f8).at_
                    rw [HPC.out.1] at hr ⊢
                    refine (at_any hrc (Mi_cut HH.out.2.2.2.1 (by omega)) hS hr).mono ?_
                    rintro e w' ⟨⟨kk, rfl, hs⟩, hff⟩
                    refine ⟨?_, hff⟩
                    rw [Mi_old (by omega)] at hs
                    rcases hs with ⟨_, hno⟩ | ⟨j, rfl, hj, ej⟩
                    · exfalso
                      obtain ⟨z, hz, ez⟩ := HH.out.2.2.2.2.2.at HH.out.2.2.2.2.1 hik
                      refine hno (mkF _ 0 n1 z) (List.mem_map.2 ⟨z, hz, rfl⟩) ?_
                      rw [(mkF_same _ _ _).path, ez, HPC.out.2]
                    · rw [useL_len] at hj
                      rw [(useL_at hj).1, HPC.out.2] at ej
                      exact ⟨j, rfl, hj, ej⟩
                  clear hm1 hPC hbc
                  go_wp2_with (first
                    | (go_at_call 21; with_reducible refine HCP.out.mono ?_; rintro e w8 ⟨u, uc, rfl, hu, f8⟩; have HA := hidd (HAT.out w8 u uc f8 hu); clear HCP)
                    | (go_at_call 59; with_reducible refine HA.out.mono ?_; rintro e w9 ⟨⟨a, rfl, ha, hap⟩, f9⟩; have hd : decide ((a : Int) < 0) = false := by simp))
                  have H9 := HK.out.fresh (fresh_trans f8 f9)
                  have R9 := H9.rc
                  rw [Mi_old (show i ≤ k by omega)] at R9
                  obtain ⟨gg, gc, ev, hgl, hgc, hgD, c1, fg, hcs⟩ := R9.at_.list0 (by rw [useL_len]; omega)
                  rw [useL_len] at ev hgl c1 hcs
                  subst ev
                  have c2 : w9.cell? ⟨D, 2, none⟩ = some (.int .i64 n1) := R9.at_.row.cell (i := 2) (by decide)
                  have cu := (hcs a ha).2.2
                  generalize (ndAt (useL L ((pcL t x.S n).take i) n1) a).used = uu at cu
                  have a0 : (0 : Int) ≤ (a : Int) := by omega
                  have a1 : (a : Int) < (L.length : Int) := by omega
                  have fgi := fg (a * 3 + 2)
                  have kg := (Chg.of_set w9 gg (a * 3 + 2) (.int .i64 n1)).post (Below.refl _ _).drew
                  have HK2 : Hid (Rkp w (w9.setCell ⟨gg, a * 3 + 2, none⟩ (.int .i64 n1)).drew R D L n1 x y (pcL t x.S n) (fun i => (g i).toNat) k (i + 1) R' (.slice (some ⟨gg, 0, none⟩) L.length gc) Ta' Tc') := by
                    have R10 := (R9.useN (useL_len _ _ _).symm (by rw [useL_len]; exact ha) n1).fresh (Below.refl _ _).drew
                    rw [useL_next HH.out.2.2.2.2.1 ha hap (by rw [pcL_len]; omega)] at R10
                    have rg : R' gg := R9.rV gg rfl
                    have o := H9.off
                    refine ⟨by rw [Mi_old (by omega)]; exact R10, ?_, o, ?_, H9.up, H9.dn⟩
                    · have e0 : i + 1 - k = i - k := by omega
                      rw [e0]
                      exact H9.ref.chg kg (fun e => o.g (by rw [e]; exact rg)) (fun e => o.cb (by rw [e]; exact rg)) (fun e => o.kb (by rw [e]; exact rg)) (fun e => o.vb (by rw [e]; exact rg)) (fun i hi e => o.ka i hi (by rw [e]; exact rg)) (fun i hi e => o.va i hi (by rw [e]; exact rg))
                    · refine H9.chg.trans kg (fun z hz e => ?_)
                      rcases H9.dn gg rg with r | r
                      · rw [e]; exact .inl r
                      · omega
                  clear H9 R9 hcs hap kg HA HAT f8 f9 HK fg hu
                  go_wp2
                  go_region
                  go_wp2
                  go_roundw
                  case rel => exact ⟨i + 1, R', _, Ta', Tc', by omega, by go_num, HK2.out⟩
                  case measure => simp [intOf]; omega
                · have HAT : Hid (∀ w8 u uc, Below wr.heap.size wr w8 → Own w8 wr.heap.size 3 1 (.slice u m1 uc) m1 (fun j => .int .i64 (t j)) → Calls Try.prog 59 #[.pointer (some ⟨D, 0, none⟩), .slice u m1 uc] w8 fun e w' => e = .returned (.int .i64 (-1)) ∧ Below w8.heap.size w8 w') := fun w8 u uc f8 hu => by
                    obtain ⟨uo, ucc, eu, hr⟩ := hu.rd
                    injection eu with eu1 _ eu2
                    subst eu1 eu2
                    have hrc := (HK.out.rc.fresh f8).at_
                    rw [HPC.out.1] at hr ⊢
                    refine at_none hrc (Mi_cut HH.out.2.2.2.1 (by omega)) hS hr (fun z hz e => ?_)
                    rw [HPC.out.2] at e
                    exact Mi_no HH.out.2.2.2.2.2 (by omega) (by rw [pcL_len]; omega) z hz e
                  have HBC := hidd hbc
                  clear hm1 hPC hbc
                  go_wp2_with (first
                    | (go_at_call 21; with_reducible refine HCP.out.mono ?_; rintro e w8 ⟨u, uc, rfl, hu, f8⟩; have HA := hidd (HAT.out w8 u uc f8 hu); have HU := hidd hu; clear HCP hu)
                    | (go_at_call 59; with_reducible refine HA.out.mono ?_; rintro e w9 ⟨rfl, f9⟩))
                  have f89 := fresh_trans f8 f9
                  have f0 : Below w9.heap.size w9 w9.drew := (Below.refl _ _).drew
                  have H9 := hidd (HK.out.fresh (fresh_trans f89 f0))
                  have HU9 := hidd ((HU.out.kept f9).kept f0)
                  obtain ⟨gi, hgi⟩ : ∃ gi, gi = g i := ⟨_, rfl⟩
                  have s0 : w9.drew.cell? ⟨D, 0, none⟩ = some (.pointer (some ⟨x.g, 0, none⟩)) ∧ w9.drew.cell? ⟨b, off + i, none⟩ = some (.int .i64 gi) := ⟨H9.out.rc.at_.row.cell (i := 0) (by decide), by
                    rw [hgi]
                    exact H9.out.chg.cell (HBC.out i (by omega)) (HB.out.2 (by omega) b off rfl)⟩
                  have HHD : Hid (Calls Try.prog 62 #[.pointer (some ⟨x.g, 0, none⟩), .int .i64 gi] w9.drew fun e w' => ∃ q, e = .returned (.int .i64 q) ∧ (w'.cell? ⟨D, 0, none⟩ = some (.pointer (some ⟨x.g, 0, none⟩)) ∧ w'.cell? ⟨b, off + i, none⟩ = some (.int .i64 gi)) ∧ Hid (RcF w' R' D x.g v' (Mi L (pcL t x.S n) (fun i => (g i).toNat) k i n1) x.S n1 Ta' Tc' ∧ RefAt w' x { y with cnt := addC y.cnt (fun i => (g i).toNat) k (i + 1 - k) } ∧ Chg w w' (fun z => R z ∨ z = x.cb) ∧ Own w' wr.heap.size 3 1 (.slice u m1 uc) m1 (fun j => .int .i64 (t j)) ∧ wr.heap.size ≤ w'.heap.size)) := by
                    obtain ⟨hg1, hg2, hg3⟩ := HGN.out i hlt
                    have c1 : addC y.cnt (fun i => (g i).toNat) k (i - k) (g i).toNat ≠ 0 := by
                      have := addC_ge y.cnt (fun i => (g i).toNat) k (i - k) (g i).toNat
                      omega
                    have c2 : addC y.cnt (fun i => (g i).toNat) k (i - k) (g i).toNat ≤ 4611686018427387904 := by
                      have := addC_le y.cnt (fun i => (g i).toNat) k (i - k) (g i).toNat
                      have := HC.out (g i).toNat
                      omega
                    have := rhold_ok (b := (g i).toNat) H9.out.ref hg2 c1 c2
                    rw [hgi, hg1]
                    refine this.mono ?_
                    rintro e w' ⟨rfl, h1, h2⟩
                    have hRx : ∀ z, R' z → ¬ z = x.cb := fun z hz e => H9.out.off.cb (by rw [← e]; exact hz)
                    have hlo := H9.out.ref.lows
                    have hcbw : x.cb < w.heap.size := Nat.not_le.1 HH.out.2.1.lows.cb
                    have hww : w.heap.size ≤ wr.heap.size := HK.out.chg.size
                    refine ⟨0, rfl, ⟨h2.cell s0.1 (hRx _ H9.out.rc.rD), ?_⟩, H9.out.rc.chg h2 hRx, ?_, H9.out.chg.trans h2 (fun z _ e => .inr e), HU9.out.chg h2 (fun z hz e => by have := (HU9.out.lt z hz).1; omega), Nat.le_trans (fresh_trans f89 f0).size h2.size⟩
                    · have q := h2.cell s0.2 (fun e => HB.out.2 (by omega) b off rfl (.inr e))
                      rw [hgi, hg1] at q
                      exact q
                    · have e0 : i + 1 - k = i - k + 1 := by omega
                      have e2 : k + (i - k) = i := by omega
                      have h3 : RefAt w' x { y with cnt := updN (addC y.cnt (fun i => (g i).toNat) k (i - k)) (g i).toNat (addC y.cnt (fun i => (g i).toNat) k (i - k) (g i).toNat + 1) } := h1
                      rw [e0]
                      unfold addC
                      rw [e2]
                      exact h3
                  have HGI := hidd hgi
                  have hlow := HK.out.ref.lows
                  have HOF : Hid (Offs R' x y ∧ (∀ z, R z → R' z) ∧ (∀ z, R' z → R z ∨ w.heap.size ≤ z) ∧ Offs (fun z => wr.heap.size ≤ z) x y ∧ w.heap.size ≤ wr.heap.size) := ⟨H9.out.off, H9.out.up, H9.out.dn, ⟨hlow.g, hlow.cb, hlow.kb, hlow.vb, hlow.ka, hlow.va⟩, HK.out.chg.size⟩
                  clear hlow
                  clear HA HAT f8 f9 HK f0 HU HU9 H9 hgi HBC
                  go_wp2
                  go_region_held3 (fun w' => w'.cell? ⟨D, 0, none⟩ = some (.pointer (some ⟨x.g, 0, none⟩)) ∧ w'.cell? ⟨b, off + i, none⟩ = some (.int .i64 gi))
                    (first | (with_reducible exact s0) | (with_reducible exact k2) | go_keep)
                    (first | (go_at_call 62; with_reducible refine HHD.out.mono ?_; rintro e w10 ⟨q, rfl, k2, H10⟩))
                  all_goals
                    clear HHD s0
                    obtain ⟨M, hM⟩ : ∃ M, M = Mi L (pcL t x.S n) (fun i => (g i).toNat) k i n1 := ⟨_, rfl⟩
                    have hML : M.length = L.length + (i - k) := by rw [hM, Mi_len]
                    have hLL : L.length ≤ 256 := by have := HH.out.2.2.2.2.1.len; have := HH.out.2.2.2.2.1.hB; omega
                    have R10 := H10.out.1
                    rw [← hM] at R10
                    obtain ⟨vo, vc, ev, _⟩ := R10.at_.own.rd
                    subst ev
                    obtain ⟨ln, hln⟩ : ∃ ln, ln = M.length := ⟨_, rfl⟩
                    have hlb : ln ≤ 2147483903 := by omega
                    have q1 : w10.cell? ⟨D, 1, none⟩ = some (.slice vo ln vc) := by rw [hln]; exact R10.at_.row.cell (i := 1) (by decide)
                    have q2 : w10.cell? ⟨D, 2, none⟩ = some (.int .i64 n1) := R10.at_.row.cell (i := 2) (by decide)
                    have qb := k2.2
                    have qa1 := fresh_cell (fresh_alloc w10 (.cells #[.slice u m1 uc, .int .i64 gi, .int .i64 n1] 106)) q1
                    obtain ⟨yN, hyN⟩ : ∃ yN : Nd, yN = ⟨(pcL t x.S n).take (i + 1), (g i).toNat, n1, 0⟩ := ⟨_, rfl⟩
                    have hyl : yN.path.length * x.S = m1 := by
                      rw [hyN, HPC.out.1]
                      show ((pcL t x.S n).take (i + 1)).length * x.S = _
                      rw [List.length_take, pcL_len, Nat.min_eq_left (by omega)]
                    have hyt : ∀ j, j < m1 → tokF x.S yN.path j = t j := fun j hj => by
                      rw [hyN]
                      show tokF x.S ((pcL t x.S n).take (i + 1)) j = t j
                      rw [← HPC.out.2]
                      exact tokF_pcL hS (by rw [← HPC.out.1]; exact hj)
                    have E := knc_at (M ++ [yN]) x.S (putY Ta' M.length u) (putY Tc' M.length uc) M.length
                    rw [putY_at, putY_at, snoc_at, if_neg (by omega), if_pos rfl, hyl] at E
                    have E1 : (yN.blk : Int) = gi := by rw [hyN, HGI.out]; exact (HGN.out i hlt).1.symm
                    have E2 : yN.used = n1 := by rw [hyN]
                    rw [E1, E2, ← hln] at E
                    have HO0 : Own w10 0 106 3 (.slice vo ln vc) ln (knc (M ++ [yN]) x.S (putY Ta' M.length u) (putY Tc' M.length uc)) := by
                      rw [hln]
                      exact R10.at_.own.congr (knc_congr (fun j hj => by rw [snoc_at, if_pos hj, putY_ne _ _ (by omega), putY_ne _ _ (by omega)]; exact ⟨rfl, rfl, rfl, rfl, rfl⟩))
                    rw [← hln] at HO0
                    have HO := hidd ((HO0.kept (fresh_alloc w10 (.cells #[.slice u m1 uc, .int .i64 gi, .int .i64 n1] 106))).kept (Below.refl _ _).drew)
                    have N3 := hidd (new_three w10 106 (n := ln) E.1 E.2.1 E.2.2)
                    have fD : Below w10.heap.size w10 (w10.alloc (.cells #[.slice u m1 uc, .int .i64 gi, .int .i64 n1] 106)).drew := fresh_trans (fresh_alloc _ _) (Below.refl _ _).drew
                    have HRD := hidd (R10.fresh fD).at_.row
                    have HFIN : Hid (∀ (g' cap' : Nat) (w11 : World), Own w11 0 106 3 (.slice (some ⟨g', 0, none⟩) (ln + 1) cap') (ln + 1) (knc (M ++ [yN]) x.S (putY Ta' ln u) (putY Tc' ln uc)) → App (w10.alloc (.cells #[.slice u m1 uc, .int .i64 gi, .int .i64 n1] 106)).drew w11 (.slice vo ln vc) (.slice (some ⟨g', 0, none⟩) (ln + 1) cap') → ∃ R2 Ta2 Tc2, Rkp w (w11.setCell ⟨D, 1, none⟩ (.slice (some ⟨g', 0, none⟩) (ln + 1) cap')) R D L n1 x y (pcL t x.S n) (fun i => (g i).toNat) k (i + 1) R2 (.slice (some ⟨g', 0, none⟩) (ln + 1) cap') Ta2 Tc2) := fun g' cap' w11 hown' happ => by
                      obtain ⟨f1, f2, f3, f4, f5⟩ := HOF.out
                      obtain ⟨_, a2, a3, a4, a5⟩ := H10.out
                      have R10' := R10.fresh fD
                      rw [← hln] at R10'
                      have hown2 := hown'
                      rw [hln] at hown2
                      refine ⟨_, _, _, Rkp.push (wr := wr) (m1 := m1) HH.out.2.2.2.2.2 (by omega) (by rw [pcL_len]; omega) hM hyN hyl R10' a2 a3 (a4.congr (fun j hj => by rw [hyt j (by omega)])) fD f5 a5 f1 f4 f2 f3 happ ?_⟩
                      rw [hln]
                      exact hown2
                    clear R10 E E1 E2 HO0 hM hyN hyl hyt hML H10 k2 fD hln
                    go_wp2
                    go_region_law ((refine step_app3 _ (by rfl) _ _ _ (by rfl) 0 106 (.agg #[.slice none 0 0, .int .i64 0, .int .i64 0]) 40 Try.underlying100 infoKn rfl _ ln (knc (M ++ [yN]) x.S (putY Ta' ln u) (putY Tc' ln uc)) (by rfl) HO.out w10.heap.size 1 (by rfl) N3.out (fun _ => knc_one _ _ _ _ _) (by omega) (by omega) (Nat.zero_le _) ?_; intro g' cap' w11 hown' happ; have yr := (Chg.of_app happ).row HRD.out (fun e => HO.out.apart HRD.out (by decide) e); have yc := yr.cell (i := 1) (by decide); have yf := yr.frozen))
                    all_goals
                      have HK2 := hidd (HFIN.out g' cap' w11 hown' happ)
                      clear hown' happ yr yc yf HFIN HO N3 HRD q1 q2 qa1 qb HOF
                      go_wp2
                      go_roundw
                      case rel =>
                        obtain ⟨R2, Ta2, Tc2, h2⟩ := HK2.out
                        exact ⟨i + 1, R2, _, Ta2, Tc2, by omega, by go_num, h2⟩
                      case measure => simp [intOf]; omega
              · obtain rfl : n = i := by omega
                go_wp2
                go_ret
                exact .inr ⟨rfl, HNB.out, R', v', Ta', Tc', HK.out⟩
end Go.Proofs.Ytaalinlggjimcaa
