import Derived.Test.YtdceahebkohbjabScRd
namespace Go.Proofs.Ytdceahebkohbjab
open Go.RowKit
/-! The reference's plan: made. -/
def lI (Q : List Int) (i : Nat) : Int := Q.getD i 0
theorem lI_app (Q : List Int) (y : Int) {i : Nat} (h : i < Q.length) : lI (Q ++ [y]) i = lI Q i := by
  unfold lI
  rw [List.getD_eq_getElem?_getD, List.getD_eq_getElem?_getD, List.getElem?_append_left h]
theorem lI_last (Q : List Int) (y : Int) : lI (Q ++ [y]) Q.length = y := by
  unfold lI
  simp
def hasL (Q : List Int) (x : Int) : Bool := hasI (lI Q) Q.length x
theorem hasL_iff (Q : List Int) (x : Int) : hasL Q x = true ↔ ∃ i, i < Q.length ∧ lI Q i = x := hasI_iff _ _ _
theorem hasL_old {Q : List Int} {y x : Int} (h : hasL Q x = true) : hasL (Q ++ [y]) x = true := by
  obtain ⟨i, hi, e⟩ := (hasL_iff _ _).1 h
  refine (hasL_iff _ _).2 ⟨i, ?_, ?_⟩
  · simp; omega
  · rw [lI_app _ _ hi, e]
theorem hasL_new (Q : List Int) (y : Int) : hasL (Q ++ [y]) y = true := (hasL_iff _ _).2 ⟨Q.length, by simp, lI_last Q y⟩
theorem cnt_lt {f g : Nat → Bool} (h : ∀ b, f b = true → g b = true) {q m : Nat} (hq : q < m) (hf : f q = false) (hg : g q = true) : cnt f m + 1 ≤ cnt g m := by
  induction m with
  | zero => omega
  | succ m ih =>
    unfold cnt
    by_cases e : q = m
    · subst e
      have := cnt_mono h q
      rw [hf, hg]
      simp
      exact this
    · have := ih (by omega)
      have h2 := h m
      cases hm : f m with
      | true => rw [h2 hm]; simp; omega
      | false => cases g m <;> simp <;> omega
def uO (S : Nat → Se) (n : Nat) (Q : List Int) : Nat := cnt (fun i => !hasL Q (S i).id) n
theorem uO_step {S : Nat → Se} {n q : Nat} {Q : List Int} (hq : q < n) (h : hasL Q (S q).id = false) : uO S n (Q ++ [(S q).id]) + 1 ≤ uO S n Q := by
  refine cnt_lt (fun b hb => ?_) hq ?_ ?_
  · cases hc : hasL Q (S b).id with
    | true => rw [hasL_old hc] at hb; simp at hb
    | false => rfl
  · rw [hasL_new]; rfl
  · rw [h]; rfl
/-- who is out behind making room -/
inductive MdR (c : Me) (S : Nat → Se) (n : Nat) (gv : Int) (s : Se) (x : Int) : List Int → Option (List Int) → Prop
  | ok {Q} : bey c s x ≤ freR c S n (hasL Q) gv → MdR c S n gv s x Q (some Q)
  | no {Q} : ¬ bey c s x ≤ freR c S n (hasL Q) gv → YgR S n s.id (hasL Q) (-1) → MdR c S n gv s x Q none
  | go {Q} {q : Nat} {R} : ¬ bey c s x ≤ freR c S n (hasL Q) gv → q < n → YgR S n s.id (hasL Q) (q : Int) → MdR c S n gv s x (Q ++ [(S q).id]) R → MdR c S n gv s x Q R
def vLen (v : Value) : Nat := match v with
  | .slice _ m _ => m
  | _ => 0
set_option maxRecDepth 20000 in
set_option maxHeartbeats 8000000 in
theorem rmade_any {w : World} {g : Nat} {c : Me} {so : Option Addr} {n sc : Nat} {oo : Option Addr} {oc : Nat} {Q0 : List Int} {gv lf : Int} {S : Nat → Se} (hw : WkA w g c so n sc (.slice oo Q0.length oc) gv lf) (hS : SeA w so n sc S) (hn : n ≤ 16) (hb1 : 1 ≤ c.bs) (hb2 : c.bs ≤ 256) (hg : -100000 ≤ gv) (hg2 : gv ≤ 100000) (hQ : RdA w oo 1 Q0.length oc (fun i => .int .i64 (lI Q0 i))) (hQn : Q0.length ≤ 1000) (h1 : 1 ≤ c.bl) (h2 : c.bl ≤ 16) (s : Se) {x : Int} (h3 : 0 ≤ s.ca + x) (h4 : s.ca + x ≤ 100000) (h5 : 0 ≤ s.ca) (h6 : s.ca ≤ 100000) (h7 : s.hn ≤ 256) :
    Calls Try.prog 46 #[.pointer (some ⟨g, 0, none⟩), seV s, .int .i64 x] w fun e w' => Below w.heap.size w w' ∧ ∃ R, MdR c S n gv s x Q0 R ∧ ((R = none ∧ e = .returned (.tuple #[.slice none 0 0, .bool false])) ∨ ∃ Q a k, R = some Q ∧ Q.length ≤ Q0.length + n ∧ e = .returned (.tuple #[.slice a Q.length k, .bool true]) ∧ Own w' w.heap.size 3 1 (.slice a Q.length k) Q.length (fun i => .int .i64 (lI Q i))) := by
  have HF := hidd (fresh_alloc w (.cells #[.int .i64 s.id, .int .i64 s.kn, .int .i64 s.ca, .int .i64 s.wa, .slice s.ho s.hn s.hc] 32))
  have hbx := box5 w (.int .i64 s.id) (.int .i64 s.kn) (.int .i64 s.ca) (.int .i64 s.wa) (.slice s.ho s.hn s.hc) 32
  have HU0 : Hid (Q0.length + uO S n Q0 ≤ Q0.length + n) := by
    have := cnt_le (fun i => !hasL Q0 (S i).id) n
    show _ ≤ _
    unfold uO
    omega
  have HRM := hidd (fun (z : World) (hz : Below w.heap.size w z) (Q : List Int) (a : Option Addr) (k : Nat) (hq : RdA z a 1 Q.length k (fun i => .int .i64 (lI Q i))) => rroom_any (hw.fresh hz) (hS.fresh hz) hn hb1 hb2 hg hg2 hq h1 h2 s h3 h4 h5 h6 h7)
  have HYG := hidd (fun (z : World) (hz : Below w.heap.size w z) (Q : List Int) (a : Option Addr) (k : Nat) (hq : RdA z a 1 Q.length k (fun i => .int .i64 (lI Q i))) => ryounger_any (hw.fresh hz) (hS.fresh hz) hn hq s.id)
  have HC : Hid (∀ z, Below w.heap.size w z → z.cell? ⟨g, 5, none⟩ = some (.slice so n sc) ∧ z.cell? ⟨g, 6, none⟩ = some (.slice oo Q0.length oc)) := fun z hz => ⟨World.rowIs.cell (hw.fresh hz) (i := 5) (by decide), World.rowIs.cell (hw.fresh hz) (i := 6) (by decide)⟩
  have HCI := hidd (fun (z : World) (hz : Below w.heap.size w z) => copyI_any (hQ.fresh hz) (by omega))
  have HS := hidd hS
  obtain ⟨M, HM⟩ : ∃ M : List Int → Option (List Int) → Prop, Hid (M = MdR c S n gv s x) := ⟨_, rfl⟩
  have HOK : Hid (∀ Q, bey c s x ≤ freR c S n (hasL Q) gv → M Q (some Q)) := fun Q h => by rw [HM.out]; exact .ok h
  have HNO : Hid (∀ Q, ¬ bey c s x ≤ freR c S n (hasL Q) gv → YgR S n s.id (hasL Q) (-1) → M Q none) := fun Q h k => by rw [HM.out]; exact .no h k
  have HGO : Hid (∀ Q (q : Nat) R, ¬ bey c s x ≤ freR c S n (hasL Q) gv → q < n → YgR S n s.id (hasL Q) (q : Int) → M (Q ++ [(S q).id]) R → M Q R) := fun Q q R h hq k m => by rw [HM.out] at m ⊢; exact .go h hq k m
  rw [← HM.out]
  generalize bey c s x = by0 at *
  clear hw hS hQ HM
  obtain ⟨y0, y1, y2, y3, ho, hn0, hc0, HH⟩ := s
  unfold seV at HRM ⊢
  simp only at HRM HYG hbx HF HNO HGO ⊢
  go_enter Try.func46, Try.ntmps46
  go_upto_region 1 with fail
  have HBX := hidd hbx
  clear hbx
  generalize w.alloc (.cells #[.int .i64 y0, .int .i64 y1, .int .i64 y2, .int .i64 y3, .slice ho hn0 hc0] 32) = w1 at *
  obtain ⟨gs, HGS⟩ : ∃ g, Hid (g = w.heap.size) := ⟨_, rfl⟩
  rw [← HGS.out] at HBX ⊢
  have HCI1 := hidd (HCI.out w1 HF.out)
  obtain ⟨_, c6⟩ := HC.out w1 HF.out
  go_wp2_with (go_at_call 13; with_reducible refine HCI1.out.mono ?_; rintro e w2 ⟨u2, k2, rfl, ho2, hb2⟩)
  have HO2 := hidd ho2
  have HB2 := hidd hb2
  clear ho2 hb2 c6
  go_loopw [8] (fun v wr => ∃ (Q : List Int) (a : Option Addr) (k : Nat), v = .slice a Q.length k ∧ Q.length + uO S n Q ≤ Q0.length + n ∧ Hid (∀ R, M Q R → M Q0 R) ∧ Hid (Own wr w1.heap.size 3 1 (.slice a Q.length k) Q.length (fun i => .int .i64 (lI Q i))) ∧ Hid (Below w1.heap.size w1 wr)) (fun v _ => Q0.length + n - vLen v)
  case atStart => exact ⟨Q0, u2, k2, rfl, HU0.out, fun _ h => h, HO2, HB2⟩
  case round =>
    clear HO2 HB2
    obtain ⟨Q, a, k, rfl, hQU, HQM, HOW, HB⟩ := hrel
    have HBW := hidd (HF.out.trans (HB.out.mono HF.out.size))
    obtain ⟨t0, t1, t2, t3, t4⟩ := HBX.out
    replace t0 := fresh_cell HB.out t0
    replace t1 := fresh_cell HB.out t1
    replace t2 := fresh_cell HB.out t2
    replace t3 := fresh_cell HB.out t3
    replace t4 := fresh_cell HB.out t4
    have HR1 := hidd (HRM.out wr HBW.out Q a k (own_rda HOW.out))
    by_cases hr : by0 ≤ freR c S n (hasL Q) gv
    · have hd : decide (by0 ≤ freR c S n (hasI (lI Q) Q.length) gv) = true := decide_eq_true hr
      have HK := hidd (HQM.out _ (HOK.out Q hr))
      rw [hd] at HR1
      have hlen : Q.length ≤ Q0.length + n := by omega
      clear hd hr
      go_wp2_with (go_at_call 48; with_reducible refine HR1.out.mono ?_; rintro e w3 ⟨rfl, hb3⟩; have HB3 := hidd hb3; clear hb3)
      try rw [Exit.noGoto_ret]
      go_ret2
      exact ⟨HBW.out.trans (HB3.out.mono HBW.out.size), _, HK.out, .inr ⟨Q, a, k, rfl, hlen, rfl, (HOW.out.weaken HF.out.size).kept HB3.out⟩⟩
    · have hd : decide (by0 ≤ freR c S n (hasI (lI Q) Q.length) gv) = false := decide_eq_false hr
      rw [hd] at HR1
      have HNR := hidd hr
      clear hd hr
      go_upto_region 3 with (go_at_call 48; with_reducible refine HR1.out.mono ?_; rintro e w3 ⟨rfl, hb3⟩; have HB3 := hidd hb3; clear hb3)
      have HOW3 := hidd (HOW.out.kept HB3.out)
      have HBW3 := hidd (HBW.out.trans (HB3.out.mono HBW.out.size))
      have HBB3 := hidd (HB.out.trans (HB3.out.mono HB.out.size))
      replace t0 := fresh_cell HB3.out t0
      have HY3 := hidd (HYG.out w3 HBW3.out Q a k (own_rda HOW3.out))
      clear t1 t2 t3 t4 HR1 HB3
      go_upto_region 6 with (go_at_call 55; with_reducible refine HY3.out.mono ?_; rintro e w4 ⟨b, rfl, hy4, hb4⟩; have HY4 := hidd hy4; have HB4 := hidd hb4; clear hy4 hb4)
      have HBW4 := hidd (HBW3.out.trans (HB4.out.mono HBW3.out.size))
      have HBB4 := hidd (HBB3.out.trans (HB4.out.mono HBB3.out.size))
      have HOW4 := hidd (HOW3.out.kept HB4.out)
      clear HY3 t0 HB4 HOW3 HOW
      have hbq : b = -1 ∨ ∃ q : Nat, q < n ∧ b = (q : Int) ∧ hasL Q (S q).id = false := by
        rcases HY4.out with ⟨h1, _⟩ | ⟨q, h1, h2, h3, _⟩
        · exact .inl h1
        · exact .inr ⟨q, h1, h2, h3.2.2⟩
      rcases hbq with rfl | ⟨q, hq, rfl, hqq⟩
      · have HK := hidd (HQM.out _ (HNO.out Q HNR.out HY4.out))
        go_wp2
        try rw [Exit.noGoto_ret]
        go_ret2
        exact ⟨HBW4.out, _, HK.out, .inl ⟨rfl, rfl⟩⟩
      · have HK := hidd (fun R (h : M (Q ++ [(S q).id]) R) => HQM.out R (HGO.out Q q R HNR.out hq HY4.out h))
        have hst := uO_step (S := S) hq hqq
        have dq : decide ((q : Int) < 0) = false := decide_eq_false (by omega)
        have q0 : (0 : Int) ≤ (q : Int) := by omega
        have q1 : (q : Int) < (n : Int) := by omega
        obtain ⟨b1, o1, rfl, hc1⟩ := (HS.out.fresh HBW4.out).rd.seat (by omega)
        have x0 := (hc1 q hq).1
        obtain ⟨c5, _⟩ := HC.out w4 HBW4.out
        have hQl : Q.length ≤ 1016 := by omega
        have hsz : w1.heap.size ≤ w4.heap.size := HBB4.out.size
        have HOX : Hid (Own w4 w1.heap.size 3 1 (.slice a Q.length k) Q.length (fun i => .int .i64 (lI (Q ++ [(S q).id]) i))) := HOW4.out.congr (fun j hj => by rw [lI_app _ _ (by omega)])
        have HCX : Hid (∀ (z : World) (t : TypeId), (z.alloc (.cells #[.int .i64 (S q).id] t)).cell? ⟨z.heap.size, 0, none⟩ = some (.int .i64 (lI (Q ++ [(S q).id]) Q.length))) := fun z t => by rw [lI_last]; exact new_cell _ _ _
        have HLN : Hid ((Q ++ [(S q).id]).length = Q.length + 1) := by show _ = _; simp
        clear hc1 HY4 HNR
        go_wp2_with (at_builtin; refine wpList_app1 _ rfl _ _ 25 rfl w1.heap.size 3 (.int .i64 0) 8 Try.underlying25 infoI rfl _ Q.length (fun i => .int .i64 (lI (Q ++ [(S q).id]) i)) rfl (HOX.out.kept (fresh_alloc _ _)) _ 1 rfl (HCX.out _ _) rfl (by omega) (by omega) (by simp; omega) ?_)
        intro v5 w5 ho5 ha5
        have HO5 := hidd ho5
        have HB5 := hidd (ha5.below (HBB4.out.alloc hsz _) (HOX.out.kept (fresh_alloc _ _)) (Nat.le_refl _) (by simp; omega))
        obtain ⟨a5, k5, rfl, _⟩ := HO5.out.rd
        clear ho5 ha5
        go_wp2
        go_roundw
        case rel =>
          refine ⟨Q ++ [(S q).id], a5, k5, by rw [HLN.out], by rw [HLN.out]; omega, HK, ?_, HB5⟩
          rw [HLN.out]
          exact HO5
        case measure => simp [vLen]; omega
end Go.Proofs.Ytdceahebkohbjab
