import Derived.Test.YtlbmgknlbhakoaaTxS
import Derived.Test.YtlbmgknlbhakoaaVByt
namespace Go.Proofs.Ytlbmgknlbhakoaa
open Go.RowKit
/-! TextWaits. -/
theorem fam_one {w0 : World} {S1 N : Nat} {K1 : Nat → Prop} {d : VD} {sts : List (List Int)} (hN : 1 ≤ N) (h1 : StA w0 S1 K1 d sts (.slice none 0 0) [] false) :
    Fam w0 1 N (fun _ => S1) (fun _ => K1) d (fun _ => sts) (fun _ => .slice none 0 0) (fun _ => []) (fun _ => false) w0 := by
  have nn : ∀ b, (Value.slice none 0 0).ownBlock ≠ some b := fun b e => by simp [Value.ownBlock] at e
  exact ⟨hN, fun j _ => h1.p, fun i _ => ownB_nil _ _, fun i _ b hb => absurd hb (nn b), fun i j _ _ _ b hb => absurd hb (nn b), fun j _ => h1.p.lt, fun i j hi hj hne => absurd (show i = j by omega) hne, fun j b _ hk => ⟨h1.p.kl b hk, fun i _ e => h1.p.kS (e ▸ hk)⟩, Chg.refl _ _⟩
theorem endN_nil (t : List Int) : endN [] t = 0 := rfl
theorem comB_nil : ∀ (bs t : List Int), (comB [] t bs).2 = false
  | [], _ => rfl
  | b :: r, t => by
    rw [comB_cons, endN_nil, if_neg (by omega)]
    exact comB_nil r _
theorem comT_nil {d : VD} : ∀ (ts : List Nat) (t : List Int), (∀ k ∈ ts, k ≠ 0) → (comT d [] t ts).2 = false
  | [], _, _ => rfl
  | k :: r, t, h => by
    rw [comT_cons, if_neg (h k (by simp)), if_neg (by rw [comB_nil]; simp)]
    exact comT_nil r _ (fun q hq => h q (by simp [hq]))
theorem pE_nil {d : VD} {ts : List Nat} (h : ∀ k ∈ ts, k ≠ 0) (p : Nat) : pE d [] ts p = false := by
  unfold pE fdE
  simp only [Bool.false_eq_true, if_false]
  exact comT_nil _ _ (fun k hk => h k (List.mem_of_mem_take hk))
theorem begN_nil (t : List Int) : begN [] t = 0 := rfl
/-- how many bytes wait at most -/
def mostN (sts : List (List Int)) : Nat := if sts.length = 0 then 3 else 18
theorem waN_most {sts : List (List Int)} (h : SOk sts) (t : List Int) : waN sts t ≤ mostN sts := by
  unfold mostN
  split
  · rename_i h0
    obtain rfl : sts = [] := List.eq_nil_of_length_eq_zero h0
    have := (runeN_le (t.take (t.length - begN [] t))).1
    unfold waN
    rw [begN_nil] at this ⊢
    omega
  · exact waN_18 h t
/-- what has come, what has been given out -/
theorem p_all {d : VD} {sts : List (List Int)} {ts : List Nat} {p : Nat} (h : pE d sts ts p = false) : pO d sts ts p ++ pX d sts ts p = spl d (ts.take p) := by
  have := fd_all (d := d) (sts := sts) (x := []) (ts.take p) h
  unfold pO pX
  simpa using this
theorem spl_succ {d : VD} {ts : List Nat} {p : Nat} (h : p < ts.length) : spl d (ts.take (p + 1)) = spl d (ts.take p) ++ d.pc (ts.getD p 0) := by
  rw [List.take_succ_eq_append_getElem h]
  unfold spl
  rw [List.flatMap_append]
  simp only [List.flatMap_cons, List.flatMap_nil, List.append_nil]
  congr 2
  simp [List.getD_eq_getElem?_getD, h]
theorem rt_nz {d : VD} (hR : d.Right) (T : Nat → Int) (n : Nat) : ∀ k ∈ rtL d false T n, k ≠ 0 := fun k hk => by
  obtain ⟨z1, z2, z3⟩ := hR.cnt
  obtain ⟨i, _, rfl⟩ := List.mem_map.1 hk
  have := rtN_pos (N := d.nb + 1 + d.np) (by omega) (T i)
  omega
/-- What TextWaits' loop keeps. -/
structure WtI (w0 : World) (S : Nat → Nat) (K : Nat → Nat → Prop) (d : VD) (sts : List (List Int)) (ts : List Nat) (p r1 r2 : Nat) (V : Nat → Value) (L : Nat → List Int) (O : Nat → Bool) (wX : World) : Prop where
  fam : Fam w0 1 3 S K d (fun _ => sts) V L O wX
  x : L 0 = pX d sts ts p
  e : O 0 = pE d sts ts p
  c : L 1 = spl d (ts.take r1)
  o : L 2 = pO d sts ts r2
section
variable {w0 wX wY : World} {S : Nat → Nat} {K : Nat → Nat → Prop} {d : VD} {sts : List (List Int)} {ts : List Nat} {p r1 r2 : Nat} {V : Nat → Value} {L : Nat → List Int} {O : Nat → Bool}
theorem WtI.fresh (h : WtI w0 S K d sts ts p r1 r2 V L O wX) (f : Below wX.heap.size wX wY) : WtI w0 S K d sts ts p r1 r2 V L O wY := ⟨h.fam.fresh f, h.x, h.e, h.c, h.o⟩
theorem WtI.feed (hd : ∀ k, Byt (d.pc k)) (h : WtI w0 S K d sts ts p r1 r2 V L O wX) {v : Value} {k : Nat} (f : Fed wX (S 0) (K 0) d sts (V 0) (L 0) (O 0) ((ts.drop p).take k) v wY) (ho : O 0 = true → v = .slice none 0 0) :
    ∃ V' L' O' A, WtI w0 S K d sts ts (p + k) r1 r2 V' L' O' wY ∧ V' 1 = V 1 ∧ V' 2 = V 2 ∧ pO d sts ts (p + k) = pO d sts ts p ++ A ∧ OwnB wY 0 v A ∧ (∀ b, v.ownBlock = some b → (V 1).ownBlock ≠ some b ∧ (V 2).ownBlock ≠ some b) := by
  obtain ⟨wv, hf, h1, h2⟩ := h.fam.feed (j := 0) (by omega) f ho
  obtain ⟨a1, a2, a3⟩ := p_add (sts := sts) hd ts p k
  refine ⟨_, _, _, _, ⟨hf, ?_, ?_, ?_, ?_⟩, pt_ne _ _ (by decide), pt_ne _ _ (by decide), a3, ?_, fun b hb => ⟨fun e => h2 1 (by omega) b (by rw [pt_ne _ _ (by decide)]; exact e) hb, fun e => h2 2 (by omega) b (by rw [pt_ne _ _ (by decide)]; exact e) hb⟩⟩
  · rw [pt_at, a1, h.x, h.e]
  · rw [pt_at, a2, h.x, h.e]
  · rw [pt_ne _ _ (by decide)]; exact h.c
  · rw [pt_ne _ _ (by decide)]; exact h.o
  · rw [← h.x, ← h.e]; exact h1
theorem WtI.join1 (h : WtI w0 S K d sts ts p r1 r2 V L O wX) {v : Value} {r : Nat} (f : JnP wX (V 1) (spl d (ts.take r)) v wY) : ∃ V' L', WtI w0 S K d sts ts p r r2 V' L' O wY ∧ V' 1 = v ∧ V' 2 = V 2 := by
  refine ⟨_, _, ⟨h.fam.join (i := 1) (by omega) (by omega) f, ?_, h.e, ?_, ?_⟩, pt_at _ _ _, pt_ne _ _ (by decide)⟩
  · rw [pt_ne _ _ (by decide)]; exact h.x
  · rw [pt_at]
  · rw [pt_ne _ _ (by decide)]; exact h.o
theorem WtI.join2 (h : WtI w0 S K d sts ts p r1 r2 V L O wX) {v : Value} {r : Nat} (f : JnP wX (V 2) (pO d sts ts r) v wY) : ∃ V' L', WtI w0 S K d sts ts p r1 r V' L' O wY ∧ V' 1 = V 1 ∧ V' 2 = v := by
  refine ⟨_, _, ⟨h.fam.join (i := 2) (by omega) (by omega) f, ?_, h.e, ?_, ?_⟩, pt_ne _ _ (by decide), pt_at _ _ _⟩
  · rw [pt_ne _ _ (by decide)]; exact h.x
  · rw [pt_ne _ _ (by decide)]; exact h.c
  · rw [pt_at]
end
set_option maxRecDepth 100000 in
set_option maxHeartbeats 16000000 in
theorem waits_law {w : World} {d : VD} {bo po so lo : Option Addr} {cb cp cs cl n : Nat} {sb : List ByteArray} {T : Nat → Int} (hb : RdA w bo 1 d.nb cb (fun i => .int .u8 (d.B i))) (hp : RdA w po 2 d.np cp (tcs d.P d.Q)) (hB : ∀ i, i < d.nb → 0 ≤ d.B i ∧ d.B i ≤ 255)
    (hs : RdA w so 1 sb.length cs (fun i => .string (sb.getD i ByteArray.empty))) (hlen : ∀ i, i < sb.length → (sb.getD i ByteArray.empty).size ≤ 9223372036854775807)
    (hl : RdA w lo 1 n cl (fun i => .int .i64 (T i))) (hT : ∀ i, i < n → -9223372036854775808 ≤ T i ∧ T i ≤ 9223372036854775807) :
    Calls Try.prog 7 #[.agg #[.slice bo d.nb cb, .slice po d.np cp], .slice so sb.length cs, .slice lo n cl] w fun e w' => e = .returned (.bool true) ∧ Below w.heap.size w w' := by
  have hf0 := fresh_alloc w (.cells #[.slice bo d.nb cb, .slice po d.np cp] 25)
  have q0 := row2_new w 25 (.slice bo d.nb cb) (.slice po d.np cp)
  have hn1 := Nat.le_trans hl.le hl.top
  unfold maxLen at hn1
  have HL1 := hidd (fun w' => long_any n hn1 w')
  have HB := hidd hb
  have HP := hidd hp
  have HBB := hidd hB
  have HS := hidd hs
  have HLEN := hidd hlen
  have HL := hidd hl
  have HT := hidd hT
  clear hb hp hB hs hlen hl hT
  obtain ⟨w0, ew0⟩ : ∃ w0, w0 = w.alloc (.cells #[.slice bo d.nb cb, .slice po d.np cp] 25) := ⟨_, rfl⟩
  by_cases hn : 2147483647 < n
  · rw [decide_eq_true hn] at HL1
    go_enter Try.func7, Try.ntmps7
    go_wp2_with fail
    refine (HL1.out _).mono ?_
    rintro e w1 ⟨rfl, hw⟩
    rw [hw]
    clear hw
    go_wp2
    go_ret
    exact ⟨rfl, hf0⟩
  rw [decide_eq_false hn] at HL1
  obtain ⟨k, ek⟩ : ∃ k, k = sb.length := ⟨_, rfl⟩
  have EK := hidd ek
  by_cases hRM : d.Right ∧ MaySt sb
  · have HR := hidd hRM.1
    have HM := hidd hRM.2
    have HCST : Hid (Cst d (sb.map bys)) := ⟨hRM.1, maySt_ok hRM.2, vd_byt HBB.out⟩
    have HNW : Hid (∀ w', Below w.heap.size w w' → Calls Try.prog 11 #[.agg #[.slice bo d.nb cb, .slice po d.np cp], .slice so k cs] w' fun e w'' => ∃ S K, e = .returned (.tuple #[.pointer (some ⟨S, 0, none⟩), .int .i64 0]) ∧ StA w'' S K d (sb.map bys) (.slice none 0 0) [] false ∧ Below w'.heap.size w' w'' ∧ w'.heap.size ≤ S ∧ (∀ b, K b → w'.heap.size ≤ b)) := fun w' f => by
      have := new_ok (HB.out.fresh f) (HP.out.fresh f) HR.out (HS.out.fresh f) HM.out
      rwa [← ek] at this
    rw [← ek]
    have hk4 : k ≤ 4 := by have := hRM.2.1; omega
    clear ek hRM
    obtain ⟨sts, est⟩ : ∃ sts, sts = sb.map bys := ⟨_, rfl⟩
    rw [← est] at HCST HNW
    have ESL : Hid (sts.length = k) := by show _ = _; rw [est, List.length_map]; exact EK.out.symm
    clear est
    go_enter Try.func7, Try.ntmps7
    go_wp2_with fail
    refine (HL1.out _).mono ?_
    rintro e w1 ⟨rfl, hw⟩
    rw [hw]
    clear hw
    go_wp2_with fail
    rw [← ew0] at hf0 q0 ⊢
    clear ew0
    refine (fixed_any w0).mono ?_
    rintro e w1 ⟨rfl, f1⟩
    have hF1 := fresh_trans hf0 f1
    have q1 := q0.of_block (f1.block _ q0.lt)
    clear q0 f1 hf0
    obtain ⟨y0, y1⟩ := row2 q1
    go_wp2_with fail
    refine (HNW.out w1 hF1).mono ?_
    rintro e w2 ⟨S1, K1, rfl, hS1, f2, hl1, _⟩
    have hF2 := fresh_trans hF1 f2
    have q2 := q1.of_block (f2.block _ q1.lt)
    obtain ⟨z0, z1⟩ := row2 q2
    have HRT := hidd (right_any (HB.out.fresh hF2) (HP.out.fresh hF2) HR.out (HL.out.fresh hF2) HT.out (by omega) false)
    have hq1l := q1.lt
    clear y0 y1 q1 HNW
    go_wp2_with fail
    refine HRT.out.mono ?_
    rintro e w4 ⟨v4, rfl, hO4, f4⟩
    have hfam := fam_one (N := 3) (by omega) (hS1.fresh f4)
    have hF4 := fresh_trans hF2 f4
    have q4 := q2.of_block (f4.block _ q2.lt)
    have hS1l := hS1.p.lt
    have hz2 := f2.size
    have hz4 := f4.size
    have hzw := hF1.size
    obtain ⟨a4, c4, rfl, r4⟩ := hO4.rd
    have HBT : Hid (∀ b off, a4 = some ⟨b, off, none⟩ → w2.heap.size ≤ b ∧ b < w4.heap.size) := fun b off e => by subst e; exact hO4.lt b rfl
    have hc4 := r4.le
    have hc4t := r4.top
    unfold maxLen at hc4t
    obtain ⟨ts, ets⟩ : ∃ ts, ts = rtL d false T n := ⟨_, rfl⟩
    have ETL : Hid (ts.length = n) := by show _ = _; rw [ets, rtL_len]
    have HGD : Hid (∀ i, i < n → ts.getD i 0 < d.nb + 1 + d.np) := by rw [ets]; exact rt_good HR.out false T n
    have HNZ : Hid (∀ t ∈ ts, t ≠ 0) := by rw [ets]; exact rt_nz HR.out T n
    rw [← ets] at r4
    clear ets hO4 HRT z0 z1 q2 f2 f4 hS1
    have HR4 := hidd r4
    obtain ⟨S, eS⟩ : ∃ S : Nat → Nat, S = fun _ => S1 := ⟨_, rfl⟩
    obtain ⟨K, eK⟩ : ∃ K : Nat → Nat → Prop, K = fun _ => K1 := ⟨_, rfl⟩
    rw [← eS, ← eK] at hfam
    have eS0 : Hid (S 0 = S1) := by rw [eS]; exact rfl
    have hZ := p_zero (d := d) (sts := sts) ts
    have HI0 : Hid (WtI w4 S K d sts ts 0 0 0 (fun _ => .slice none 0 0) (fun _ => []) (fun _ => false) w4) := ⟨hfam, hZ.1.symm, hZ.2.1.symm, (by simp [spl]), hZ.2.2.symm⟩
    have HLM : Hid (∀ p, (pO d sts ts p).length ≤ 16 * p) := fun p => pO_len ts (mem_good HR.out (by rw [ETL.out]; exact HGD.out)) p
    have HLS : Hid (∀ p, p ≤ n → (spl d (ts.take p)).length ≤ 16 * p) := fun p hp => by
      have := spl_len (d := d) (ts.take p) (fun t ht => mem_good HR.out (by rw [ETL.out]; exact HGD.out) t (List.mem_of_mem_take ht))
      rw [List.length_take] at this
      omega
    have HNS : Hid (∀ b off, a4 = some ⟨b, off, none⟩ → ∀ j, j < 1 → b ≠ S j) := fun b off e j hj => by
      have := HBT.out b off e
      obtain rfl : j = 0 := by omega
      rw [eS0.out]; omega
    have HLO : Hid (∀ wX V L O, Fam w4 1 3 S K d (fun _ => sts) V L O wX → Below w1.heap.size w4 wX) := fun wX V L O hf => hf.chg.below (Below.refl _ _) (by omega) (fun b ⟨j, hj, e⟩ => by
      obtain rfl : j = 0 := by omega
      rw [eS0.out] at e; omega)
    clear hfam hZ eS eK r4
    have hN2 : n ≤ 2147483647 := by omega
    obtain ⟨mo, emo⟩ : ∃ mo, mo = mostN sts := ⟨_, rfl⟩
    have EMO := hidd emo
    have hmo : mo ≤ 18 := by rw [emo]; unfold mostN; split <;> omega
    have hmk : mo = if k = 0 then 3 else 18 := by rw [emo]; unfold mostN; rw [ESL.out]
    clear emo
    go_upto_if 48 with fail
    go_cut [11] from 48 to 48 (fun v11 wx => wx = w4 ∧ v11 = .int .i64 mo)
    case first =>
      by_cases hk0 : k = 0
      · have dk : ((k : Int) == 0) = true := by simp [hk0]
        rw [if_pos hk0] at hmk
        have E : Hid ((3 : Int) = (mo : Int)) := by show _ = _; omega
        clear hmk
        go_wp2_with fail
        go_meet
        case rel => exact ⟨rfl, congrArg _ E.out⟩
      · have dk : ((k : Int) == 0) = false := by simp [hk0]
        rw [if_neg hk0] at hmk
        have E : Hid ((18 : Int) = (mo : Int)) := by show _ = _; omega
        clear hmk
        go_wp2_with fail
        go_meet
        case rel => exact ⟨rfl, congrArg _ E.out⟩
    case rest =>
    obtain ⟨hwc, rfl⟩ := hcut
    rw [hwc]
    clear hwc hmk
    go_wp2
    go_loopw [12, 13, 14] (fun vc vo i wr => ∃ (p : Nat) (V : Nat → Value) (L : Nat → List Int) (O : Nat → Bool), p ≤ n ∧ i = .int .i64 p ∧ vc = V 1 ∧ vo = V 2 ∧ Hid (pE d sts ts p = false) ∧ Hid (WtI w4 S K d sts ts p p p V L O wr)) (fun _ _ i _ => n - (intOf i).toNat)
    case atStart => exact ⟨0, _, _, _, Nat.zero_le _, rfl, rfl, rfl, (p_zero ts).2.1, HI0⟩
    case round =>
      obtain ⟨p, V, L, O, hp, rfl, rfl, rfl, HE, HI⟩ := hrel
      obtain ⟨av, kv, ev, _⟩ := OwnB.rda (HI.out.fam.own 1 (by omega))
      obtain ⟨bv, jv, ev', _⟩ := OwnB.rda (HI.out.fam.own 2 (by omega))
      rw [ev, ev']
      have EV := hidd ev
      have EV' := hidd ev'
      clear ev ev'
      obtain ⟨la, ela⟩ : ∃ la, la = (L 1).length := ⟨_, rfl⟩
      obtain ⟨lb, elb⟩ : ∃ lb, lb = (L 2).length := ⟨_, rfl⟩
      rw [← ela] at EV ⊢
      rw [← elb] at EV' ⊢
      have hlw := HLO.out wr V L O HI.out.fam
      by_cases hlt : p < n
      · clear ela elb
        obtain ⟨b', o', e', hc'⟩ := (HI.out.fam.rd HR4.out HNS.out).one (by omega)
        subst e'
        have cm := hc' p (by omega)
        have hgm := HGD.out p (by omega)
        have htk : (ts.drop p).take 1 = [ts.getD p 0] := drop_one (by rw [ETL.out]; omega)
        have hsp := spl_succ (d := d) (ts := ts) (p := p) (by rw [ETL.out]; omega)
        obtain ⟨t, et⟩ : ∃ t, t = ts.getD p 0 := ⟨_, rfl⟩
        rw [← et] at cm hgm htk hsp
        have qr := q4.of_block (hlw.block _ hq1l)
        obtain ⟨y0, y1⟩ := row2 qr
        have hFr := hF4.trans (hlw.mono (by omega))
        have fD : Below wr.heap.size wr wr.drew := (Below.refl _ _).drew
        have HPB := hidd (pbytes_any ((HB.out.fresh hFr).fresh fD) ((HP.out.fresh hFr).fresh fD) (t : Int) 0 (d.pc t) (.inr (.inr ⟨HR.out, fun i _ => (show d.good (t : Int) from ⟨by omega, by omega⟩), rfl, by simp [VD.dec]⟩)))
        have i1 : (0 : Int) ≤ (p : Int) := Int.natCast_nonneg _
        have i2 : (p : Int) < (n : Int) := by omega
        have HPC := hidd hsp
        clear et hc' hsp qr
        go_wp2
        go_region_with (first | (go_at_call 20; refine HPB.out.mono ?_; rintro e w5 ⟨v5, rfl, hO5, f5⟩; obtain ⟨a5, c5, rfl, r5⟩ := OwnB.rda hO5))
        all_goals
          have f5' := fresh_trans fD f5
          have hI5 := HI.out.fresh f5'
          have cm5 := fresh_cell f5' cm
          obtain ⟨l5, el5⟩ : ∃ l5, l5 = (d.pc t).length := ⟨_, rfl⟩
          have EL5 := hidd el5
          have hlow5 : Hid (∀ b off, a5 = some ⟨b, off, none⟩ → wr.heap.size ≤ b ∧ b < w5.heap.size) := fun b off e => by subst e; exact Own.lt hO5 b rfl
          have R5 := hidd r5
          rw [← el5]
          clear el5 r5 HPB y0 y1 cm hO5 f5
          have fA := fresh_alloc w5 (.cells #[.int .i64 (t : Int)] 3)
          have hI6 := hI5.fresh fA
          have hSl := (hI5.fam.st 0 (by omega)).lt
          have HF1 := hidd (feed_any2 (ts := (ts.drop p).take 1) (n := 1) HCST.out (hI6.fam.sta (j := 0) (by omega)) (by rw [hI5.x, hI5.e]; exact p_stl HCST.out.byt ts p) (by rw [htk]; rfl) (one_rd w5 3 (.int .i64 (t : Int)) (fun i => .int .i64 ((((ts.drop p).take 1).getD i 0 : Nat) : Int)) (by rw [htk]; rfl)) (fun b off e => by
            cases e
            refine ⟨fun e => ?_, by omega⟩
            have := hI5.fam.lt (i := 0) (by omega) e
            omega) (fun i hi => by
            obtain rfl : i = 0 := by omega
            rw [htk]; exact hgm) (by decide))
          have HVL : Hid (∀ b, (V 0).ownBlock = some b → b < wr.heap.size) := fun b e => HI.out.fam.lt (i := 0) (by omega) e
          have HV1L : Hid (∀ b, (V 1).ownBlock = some b → b < wr.heap.size) := fun b e => HI.out.fam.lt (i := 1) (by omega) e
          have HSL : Hid (S 0 < wr.heap.size) := (HI.out.fam.st 0 (by omega)).lt
          rw [eS0.out] at HF1
          have HI6 := hidd hI6
          have FA := hidd fA
          clear htk hI5 hI6 HI fA
          go_wp2_with fail
          refine HF1.out.mono ?_
          rintro e w7 ⟨v7, rfl, hfd, hov⟩
          rw [← eS0.out] at hfd
          have R7 : Hid (RdA w7 a5 1 (d.pc t).length c5 (fun j => .int .u8 ((d.pc t).getD j 0))) := by
            have h1 := R5.out.fresh FA.out
            refine ⟨h1.le, h1.top, fun h0 => ?_⟩
            obtain ⟨b, off, e, hc⟩ := h1.at_ h0
            refine ⟨b, off, e, fun j hj => hfd.chg.cell (hc j hj) (fun e2 => ?_)⟩
            have h2 := (hlow5.out b off e).1
            rcases e2 with e2 | e2
            · have := HSL.out; omega
            · have := HVL.out b e2; omega
          obtain ⟨V7, L7, O7, A7, hI7, g1, g2, hA7, hO7, hoff7⟩ := HI6.out.feed HCST.out.byt hfd hov
          obtain ⟨a7, c7, rfl, r7⟩ := OwnB.rda hO7
          have HB5 : Hid (∀ b off, a5 = some ⟨b, off, none⟩ → (V7 1).ownBlock ≠ some b) := fun b off e e2 => by
            have h2 := (hlow5.out b off e).1
            rw [g1] at e2
            have := HV1L.out b e2
            omega
          have HOV := hidd (over_any (hI7.fam.st 0 (by omega)))
          rw [eS0.out, hI7.e] at HOV
          have hB7 := hF4.trans ((HLO.out w7 V7 L7 O7 hI7.fam).mono (by omega))
          obtain ⟨l7, el7⟩ : ∃ l7, l7 = A7.length := ⟨_, rfl⟩
          have EG1 : Hid (V7 1 = .slice av la kv) := by show _ = _; rw [g1, EV.out]
          have EG2 : Hid (V7 2 = .slice bv lb jv) := by show _ = _; rw [g2, EV'.out]
          have HOF : Hid (∀ b off, a7 = some ⟨b, off, none⟩ → (V7 1).ownBlock ≠ some b ∧ (V7 2).ownBlock ≠ some b) := fun b off e => by subst e; rw [g1, g2]; exact hoff7 b rfl
          have HRR7 := hidd r7
          have HI7 := hidd hI7
          have HA7 := hidd hA7
          have EL7 := hidd el7
          rw [← el7]
          clear el7 r7 hI7 hA7 hO7 hoff7 g1 g2 hfd hov HF1 FA HI6 EV EV' hlow5 R5 HVL HSL HV1L cm5
          cases hpe : pE d sts ts (p + 1) with
          | true =>
            rw [hpe] at HOV
            have hk0 : 0 < k := by
              rcases Nat.eq_zero_or_pos k with e | e
              · exfalso
                obtain rfl : sts = [] := List.eq_nil_of_length_eq_zero (by rw [ESL.out]; exact e)
                rw [pE_nil HNZ.out] at hpe
                cases hpe
              · exact e
            have dk : decide ((0 : Int) < (k : Int)) = true := by simp; omega
            have dk2 : decide (0 < k) = true := by simp; omega
            clear hpe
            go_wp2_with fail
            refine HOV.out.mono ?_
            rintro e w8 ⟨rfl, hw8⟩
            rw [hw8]
            clear hw8
            go_wp2
            go_ret
            exact ⟨by simp, hB7⟩
          | false =>
            rw [hpe] at HOV
            have HE' := hidd hpe
            have hall := p_all hpe
            have hst := p_stl (sts := sts) HCST.out.byt ts (p + 1)
            rw [hpe] at hst
            have hst : waN sts (pX d sts ts (p + 1)) = (pX d sts ts (p + 1)).length ∧ _ := hst
            have hwm := waN_most HCST.out.ok (pX d sts ts (p + 1))
            rw [← EMO.out, hst.1] at hwm
            have hallL := congrArg List.length hall
            rw [List.length_append] at hallL
            have hls := HLS.out (p + 1) (by omega)
            have HJ := hidd (ljoin_any (HI7.out.fam.own 1 (by omega)) R7.out (fun b off e => HB5.out b off e) (by
              rw [HI7.out.c, ← List.length_append, ← HPC.out]; omega))
            rw [HI7.out.c, ← HPC.out, EG1.out, ← EL5.out] at HJ
            have hlm := HLM.out (p + 1)
            clear hpe hst hall
            go_wp2_with fail
            refine HOV.out.mono ?_
            rintro e w8 ⟨rfl, hw8⟩
            rw [hw8]
            clear hw8
            go_wp2_with fail
            refine HJ.out.mono ?_
            rintro e w9 ⟨v9, rfl, hj9⟩
            rw [← EG1.out] at hj9
            obtain ⟨V9, L9, hI9, g1, g2⟩ := HI7.out.join1 hj9
            obtain ⟨a9, c9, ev9, _⟩ := OwnB.rda hj9.own
            have r9 : RdA w9 a7 1 A7.length c7 (fun j => .int .u8 (A7.getD j 0)) := by
              have h1 := HRR7.out
              refine ⟨h1.le, h1.top, fun h0 => ?_⟩
              obtain ⟨b, off, e, hc⟩ := h1.at_ h0
              exact ⟨b, off, e, fun j hj => hj9.chg.cell (hc j hj) (HOF.out b off e).1⟩
            have HJ2 := hidd (ljoin_any (hI9.fam.own 2 (by omega)) r9 (fun b off e e2 => by rw [g2] at e2; exact (HOF.out b off e).2 e2) (by
              rw [hI9.o, ← List.length_append, ← HA7.out]; omega))
            rw [hI9.o, ← HA7.out, g2, EG2.out, ← EL7.out] at HJ2
            have EG9 : Hid (V9 2 = .slice bv lb jv) := by show _ = _; rw [g2, EG2.out]
            obtain ⟨la9, ela9⟩ : ∃ la9, la9 = (spl d (ts.take (p + 1))).length := ⟨_, rfl⟩
            rw [← ela9] at ev9 hallL hls
            subst ev9
            have EH1 : Hid (V9 1 = .slice a9 la9 c9) := g1
            have HI9 := hidd hI9
            clear HJ hj9 hI9 g1 g2 r9 HI7 EG1 EG2 ela9 HOV R7 HRR7
            go_wp2_with fail
            refine HJ2.out.mono ?_
            rintro e w10 ⟨v10, rfl, hj10⟩
            rw [← EG9.out] at hj10
            obtain ⟨V10, L10, hI10, g1, g2⟩ := HI9.out.join2 hj10
            obtain ⟨a10, c10, ev10, _⟩ := OwnB.rda hj10.own
            obtain ⟨lb10, elb10⟩ : ∃ lb10, lb10 = (pO d sts ts (p + 1)).length := ⟨_, rfl⟩
            rw [← elb10] at ev10 hallL hlm
            subst ev10
            have EH1' : Hid (V10 1 = .slice a9 la9 c9) := by show _ = _; rw [g1, EH1.out]
            have EH2 : Hid (V10 2 = .slice a10 lb10 c10) := g2
            have HI10 := hidd hI10
            have d1 : decide ((la9 : Int) < (lb10 : Int)) = false := by simp; omega
            have d2 : decide ((mo : Int) < (la9 : Int) - (lb10 : Int)) = false := by simp; omega
            have d3 : decide (la9 < lb10) = false := by simp; omega
            clear HJ2 hj10 hI10 g1 g2 elb10 hallL HI9 EG9 EH1
            go_wp2
            go_roundw
            case rel => exact ⟨p + 1, V10, L10, O7, by omega, by go_num, EH1'.out.symm, EH2.out.symm, HE', HI10⟩
            case measure => simp [intOf]; omega
      · obtain rfl : p = n := by omega
        have hI := HI.out
        have hall : L 2 ++ L 0 = L 1 := by rw [hI.o, hI.x, hI.c]; exact p_all HE.out
        have hst := p_stl (sts := sts) HCST.out.byt ts p
        rw [HE.out] at hst
        have hst : waN sts (pX d sts ts p) = (pX d sts ts p).length ∧ _ := hst
        have hwm := waN_18 HCST.out.ok (pX d sts ts p)
        have hls := HLM.out p
        have hx18 : (L 0).length ≤ 18 := by rw [hI.x]; omega
        have hlb2 : (L 2).length ≤ 16 * p := by rw [hI.o]; exact hls
        have hsum := congrArg List.length hall
        rw [List.length_append, ← elb, ← ela] at hsum
        obtain ⟨x1, y1, e1, r1⟩ := OwnB.rda (hI.fam.own 1 (by omega))
        obtain ⟨x2, y2, e2, r2⟩ := OwnB.rda (hI.fam.own 2 (by omega))
        rw [EV.out] at e1
        rw [EV'.out] at e2
        injection e1 with e1 ex1 e1'
        injection e2 with e2 ex2 e2'
        clear ex1 ex2
        subst e1 e1' e2 e2'
        have hle1 := r1.le
        have htp1 := r1.top
        rw [← ela] at hle1
        unfold maxLen at htp1
        have HEQ1 : Hid (Calls Try.prog 18 #[.slice bv lb jv, .slice av lb kv] wr fun e w' => e = .returned (.bool true) ∧ Below wr.heap.size wr w') := by
          have r3 : RdA wr av 1 lb kv (fun j => .int .u8 ((L 1).getD j 0)) := ⟨by omega, r1.top, fun h0 => by
            obtain ⟨b, off, e, hc⟩ := r1.one (by omega)
            exact ⟨b, off, e, fun j hj => hc j (by omega)⟩⟩
          rw [← elb] at r2
          exact eqBytes_same r2 r3 (fun i hi => by rw [← hall, getD_app_lo (by omega)])
        have hcs := own_cases (hI.fam.own 1 (by omega))
        rw [EV.out] at hcs
        have HC2 : Hid ((av = none ∧ kv = 0 ∧ la = 0 ∧ lb = 0) ∨ ∃ g, av = some ⟨g, 0, none⟩) := by
          rcases hcs with ⟨e, e'⟩ | ⟨g, cap, e⟩
          · injection e with e1 e2 e3
            exact .inl ⟨e1, e3, e2, by omega⟩
          · injection e with e1 e2 e3
            exact .inr ⟨g, e1⟩
        have EHALL := hidd hall
        have ELA := hidd ela
        have HI' := hidd hI
        have hbd1 : la ≤ 34359738400 := by omega
        have hbd2 : lb ≤ la := by omega
        have hx18' : Hid ((L 0).length ≤ 18) := hx18
        have hlb2' : Hid ((L 2).length ≤ 16 * p) := hlb2
        clear hcs r1 r2 hall ela elb hst hwm hls hx18 hlb2 hsum hI
        have go1 : Hid (∀ w5, Below wr.heap.size wr w5 → Calls Try.prog 14 #[.pointer (some ⟨S1, 0, none⟩)] w5 fun e w' => e = .returned (V 0) ∧ StA w' (S 0) (K 0) d sts (.slice none 0 0) [] true ∧ OwnB w' 0 (V 0) (L 0) ∧ Chg w5 w' (fun b => b = S 0)) := fun w5 f5 => by
          have := close_any ((HI'.out.fresh f5).fam.sta (j := 0) (by omega))
          rw [eS0.out] at this ⊢
          exact this
        have go2 : Hid (∀ w5 w6, Below wr.heap.size wr w5 → StA w6 (S 0) (K 0) d sts (.slice none 0 0) [] true → OwnB w6 0 (V 0) (L 0) → Chg w5 w6 (fun b => b = S 0) → ∃ a0 c0, V 0 = .slice a0 (L 0).length c0 ∧ Calls Try.prog 17 #[.slice bv lb jv, .slice a0 (L 0).length c0] w6 fun e w' => ∃ v', e = .returned v' ∧ ∃ a8 c8, v' = .slice a8 la c8 ∧ Below w.heap.size w w' ∧ Calls Try.prog 18 #[.slice a8 la c8, .slice av la kv] w' fun e w'' => e = .returned (.bool true) ∧ Below w'.heap.size w' w'') := fun w5 w6 f5 hS6 hO6 hc6 => by
          have hf6 := (HI'.out.fresh f5).fam.close (j := 0) (by omega) hS6 hc6
          obtain ⟨a0, c0, e0, r0⟩ := OwnB.rda hO6
          refine ⟨a0, c0, e0, ?_⟩
          have hj := ljoin_any (hf6.own 2 (by omega)) r0 (fun b off e e2 => by
            subst e
            rw [pt_ne _ _ (by decide)] at e2
            exact HI'.out.fam.off 0 2 (by omega) (by omega) (by decide) b (by rw [e0]; rfl) e2) (by
            rw [pt_ne _ _ (by decide)]
            have := hx18'.out
            have := hlb2'.out
            omega)
          rw [pt_ne _ _ (by decide), pt_ne _ _ (by decide), EV'.out, EHALL.out] at hj
          refine hj.mono ?_
          rintro e w7 ⟨v7, rfl, hj7⟩
          have hf7 := hf6.join (i := 2) (by omega) (by omega) (by rw [pt_ne _ _ (by decide), EV'.out]; exact hj7)
          obtain ⟨a8, c8, e8, r8⟩ := OwnB.rda hj7.own
          rw [← ELA.out] at e8 r8
          have hown1 := hf7.own 1 (by omega)
          rw [pt_ne _ _ (by decide), pt_ne _ _ (by decide), pt_ne _ _ (by decide), pt_ne _ _ (by decide), EV.out] at hown1
          obtain ⟨x9, y9, e9, r9⟩ := OwnB.rda hown1
          injection e9 with e9 _ e9'
          subst e9 e9'
          rw [← ELA.out] at r9
          refine ⟨v7, rfl, a8, c8, e8, hF4.trans ((hf7.chg.below (Below.refl _ _) (Nat.le_trans (by omega) (Nat.le_refl _)) (fun b ⟨j, hj, e⟩ => ?_)).mono (Nat.le_refl _)), eqBytes_same r8 r9 (fun _ _ => rfl)⟩
          obtain rfl : j = 0 := by omega
          rw [eS0.out] at e; omega
        clear EV EV' HI HI' ELA EHALL hx18' hlb2' HE
        rcases HC2.out with ⟨rfl, rfl, rfl, rfl⟩ | ⟨g, rfl⟩
        · go_wp2_with fail
          refine HEQ1.out.mono ?_
          rintro e w5 ⟨rfl, f5⟩
          have HC3 := hidd (go1.out w5 f5)
          clear HEQ1
          go_wp2_with fail
          refine HC3.out.mono ?_
          rintro e w6 ⟨rfl, hS6, hO6, hc6⟩
          obtain ⟨a0, c0, e0, hj⟩ := go2.out w5 w6 f5 hS6 hO6 hc6
          have HJ := hidd hj
          rw [e0]
          obtain ⟨l0, el0⟩ : ∃ l0, l0 = (L 0).length := ⟨_, rfl⟩
          rw [← el0] at HJ ⊢
          clear HC3 hS6 hO6 hc6 hj el0 e0
          go_wp2_with fail
          refine HJ.out.mono ?_
          rintro e w7 ⟨v7, rfl, a8, c8, rfl, hB7, heq⟩
          have HEQ := hidd heq
          clear HJ heq
          go_wp2_with fail
          refine HEQ.out.mono ?_
          rintro e w8 ⟨rfl, f8⟩
          have hB8 := fresh_trans hB7 f8
          go_wp2
          go_ret
          exact ⟨rfl, hB8⟩
        · go_wp2_with fail
          refine HEQ1.out.mono ?_
          rintro e w5 ⟨rfl, f5⟩
          have HC3 := hidd (go1.out w5 f5)
          clear HEQ1
          go_wp2_with fail
          refine HC3.out.mono ?_
          rintro e w6 ⟨rfl, hS6, hO6, hc6⟩
          obtain ⟨a0, c0, e0, hj⟩ := go2.out w5 w6 f5 hS6 hO6 hc6
          have HJ := hidd hj
          rw [e0]
          obtain ⟨l0, el0⟩ : ∃ l0, l0 = (L 0).length := ⟨_, rfl⟩
          rw [← el0] at HJ ⊢
          clear HC3 hS6 hO6 hc6 hj el0 e0
          go_wp2_with fail
          refine HJ.out.mono ?_
          rintro e w7 ⟨v7, rfl, a8, c8, rfl, hB7, heq⟩
          have HEQ := hidd heq
          clear HJ heq
          go_wp2_with fail
          refine HEQ.out.mono ?_
          rintro e w8 ⟨rfl, f8⟩
          have hB8 := fresh_trans hB7 f8
          go_wp2
          go_ret
          exact ⟨rfl, hB8⟩
  · have HNW : Hid (∀ w', Below w.heap.size w w' → Calls Try.prog 11 #[.agg #[.slice bo d.nb cb, .slice po d.np cp], .slice so k cs] w' fun e w'' => (∃ x, e = .returned (.tuple #[.pointer none, .int .i64 x]) ∧ x ≠ 0 ∧ (¬ d.Right → x = 50) ∧ (d.Right → x = 180)) ∧ Below w'.heap.size w' w'') := fun w' f => by
      have := new_bad (HB.out.fresh f) (HP.out.fresh f) (HS.out.fresh f) HLEN.out hRM
      rwa [← ek] at this
    rw [← ek]
    clear ek hRM
    go_enter Try.func7, Try.ntmps7
    go_wp2_with fail
    refine (HL1.out _).mono ?_
    rintro e w1 ⟨rfl, hw⟩
    rw [hw]
    clear hw
    go_wp2_with fail
    rw [← ew0] at hf0 q0 ⊢
    clear ew0
    refine (fixed_any w0).mono ?_
    rintro e w1 ⟨rfl, f1⟩
    have hF1 := fresh_trans hf0 f1
    have q1 := q0.of_block (f1.block _ q0.lt)
    clear q0 f1 hf0
    obtain ⟨y0, y1⟩ := row2 q1
    go_wp2_with fail
    refine (HNW.out w1 hF1).mono ?_
    rintro e w2 ⟨⟨x, rfl, hx, _, _⟩, f2⟩
    have hF2 := fresh_trans hF1 f2
    have hx1 : (x != 0) = true := by simpa using hx
    clear y0 y1
    go_wp2
    go_ret
    exact ⟨rfl, hF2⟩
end Go.Proofs.Ytlbmgknlbhakoaa
