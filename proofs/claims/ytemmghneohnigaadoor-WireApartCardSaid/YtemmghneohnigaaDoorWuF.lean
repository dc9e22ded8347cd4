import Derived.Test.YtemmghneohnigaaDoorUA
import Derived.Lib.OthersKept
import Derived.Deep.DeepCutAuto
namespace Go.Proofs.YtemmghneohnigaaDoor
open Go.RowKit
/-! Unquote. -/
theorem Errs.fresh {w w' : World} (h : Errs w) (f : Below w.heap.size w w') : Errs w' := by
  obtain ⟨ev, hc, he⟩ := h
  exact ⟨ev, fresh_cell f hc, he⟩
theorem l34 : (⟨#[34]⟩ : ByteArray).toList = [34] := by rw [ByteArray.toList_eq]
/-- what Unquote answers -/
def UqO (t : List Int) (w w' : World) (e : Ending) : Prop :=
  (∃ b ao cap, UnqP t b ∧ e = .returned (.tuple #[.slice ao b.length cap, .int .i64 ((lit b).length : Int), .int .i64 0]) ∧ Own w' w.heap.size 5 1 (.slice ao b.length cap) b.length (byc b)) ∨
  ((¬ ∃ b, UnqP t b) ∧ e = .returned (.tuple #[.slice none 0 0, .int .i64 0, .int .i64 220]))
/-- what the loop keeps -/
structure UqI (w wr : World) (body b ch rest : List Int) (out : Value) : Prop where
  eq : body = pies b ++ (ch ++ rest)
  byt : Byt b
  part : Part ch
  own : Own wr (w.heap.size + 1) 5 1 out b.length (byc b)
  it : wr.heap[w.heap.size]? = some (.stringIter (strOfNums body) ((pies b).length + ch.length))
  low : Below w.heap.size w wr
theorem iter_lt {wr : World} {k : Nat} {o : Obj} (h : wr.heap[k]? = some o) : k < wr.heap.size := (Array.getElem?_eq_some_iff.1 h).1
theorem UqI.at_ {w wr : World} {body b ch rest : List Int} {x : Int} {out : Value} (h : UqI w wr body b ch (x :: rest) out) : body.getD ((pies b).length + ch.length) 0 = x ∧ (pies b).length + ch.length < body.length := by
  rw [h.eq]
  constructor
  · rw [show pies b ++ (ch ++ x :: rest) = (pies b ++ ch) ++ x :: rest by simp, ← List.length_append]
    simp [List.getD_eq_getElem?_getD]
  · simp
theorem UqI.piece {w wr : World} {body b ch rest : List Int} {x : Int} {out : Value} (h : UqI w wr body b ch (x :: rest) out) : (body.take ((pies b).length + ch.length + 1)).drop (pies b).length = ch ++ [x] := by
  rw [h.eq, show pies b ++ (ch ++ x :: rest) = (pies b ++ (ch ++ [x])) ++ rest by simp]
  rw [List.take_append_of_le_length (by simp; omega), List.take_of_length_le (by simp; omega)]
  simp
/-- the iterator one on -/
theorem UqI.next {w wr : World} {body b ch rest : List Int} {x : Int} {out : Value} (h : UqI w wr body b ch (x :: rest) out) : Own (wr.iterAt w.heap.size (strOfNums body) ((pies b).length + ch.length + 1)) (w.heap.size + 1) 5 1 out b.length (byc b) ∧ (wr.iterAt w.heap.size (strOfNums body) ((pies b).length + ch.length + 1)).heap[w.heap.size]? = some (.stringIter (strOfNums body) ((pies b).length + ch.length + 1)) ∧ Below w.heap.size w (wr.iterAt w.heap.size (strOfNums body) ((pies b).length + ch.length + 1)) := by
  refine ⟨?_, Lib.iterAt_heap _ _ _ _ _ h.it, Lib.below_iterAt h.low (Nat.le_refl _) _ _⟩
  have ho := h.own
  refine ⟨ho.1, ?_⟩
  rcases ho.2 with hn | ⟨g, cap, cur, rfl, hb, hgg, r⟩
  · exact .inl hn
  · refine .inr ⟨g, cap, cur, rfl, hb, ?_, r⟩
    rw [Lib.iterAt_other _ _ _ _ _ (by omega)]; exact hgg
theorem UqI.more {w wr w2 : World} {body b ch rest : List Int} {x : Int} {out : Value} (h : UqI w wr body b ch (x :: rest) out) (hp : Part (ch ++ [x])) (ho : Own w2 (w.heap.size + 1) 5 1 out b.length (byc b)) (hi : w2.heap[w.heap.size]? = some (.stringIter (strOfNums body) ((pies b).length + ch.length + 1))) (hl : Below w.heap.size w w2) : UqI w w2 body b (ch ++ [x]) rest out :=
  ⟨by rw [h.eq]; simp, h.byt, hp, ho, by rw [hi]; simp; omega, hl⟩
theorem UqI.byte {w wr w2 : World} {body b ch rest : List Int} {x c : Int} {out out2 : Value} (h : UqI w wr body b ch (x :: rest) out) (hc : 0 ≤ c ∧ c ≤ 255) (e : ch ++ [x] = pie c) (ho : Own w2 (w.heap.size + 1) 5 1 out2 (b.length + 1) (byc (b ++ [c]))) (hi : w2.heap[w.heap.size]? = some (.stringIter (strOfNums body) ((pies b).length + ch.length + 1))) (hl : Below w.heap.size w w2) : UqI w w2 body (b ++ [c]) [] rest out2 := by
  have el : (pies (b ++ [c])).length = (pies b).length + ch.length + 1 := by
    rw [pies_app, pies_one, ← e]; simp; omega
  refine ⟨?_, ?_, .nil, by rw [List.length_append]; exact ho, by rw [hi, el]; simp, hl⟩
  · rw [h.eq, pies_app, pies_one, ← e]; simp
  · exact h.byt.app (byt_cons hc byt_nil)
theorem App.iter {w w' : World} {v v' : Value} (h : App w w' v v') {k : Nat} {s : ByteArray} {p : Nat} (hk : w.heap[k]? = some (.stringIter s p)) (hb : v.ownBlock ≠ some k) : w'.heap[k]? = some (.stringIter s p) := by
  rw [h.grown.block k (iter_lt hk) (fun e => hb e.symm)]; exact hk
set_option maxRecDepth 20000 in
set_option maxHeartbeats 4000000 in
theorem unq_any {t : List Int} (ht : Byt t) (hl : t.length ≤ 140737488351232) {w : World} (hE : Errs w) :
    Calls Tryd.prog 10 #[.string (strOfNums t)] w fun e w' => UqO t w w' e ∧ Below w.heap.size w w' := by
  have HC := hidd (fun w => cutp_any ht b34 w)
  by_cases hq : [34] <+: t
  · obtain ⟨body, rfl⟩ := hq
    have hq : [34] <+: [34] ++ body := ⟨body, rfl⟩
    simp only [hq, decide_true, if_true, s34] at HC
    rw [show List.drop [(34 : Int)].length ([34] ++ body) = body from rfl] at HC
    have hB : Byt body := ht.right
    have hbl : body.length ≤ 140737488351232 := by simp at hl; omega
    have HBY := hidd hB
    have HE := hidd hE
    have hsz : (strOfNums body).size = body.length := strOfNums_size body
    clear hq hl hE ht hB
    have HI0 : Hid (UqI w (w.iter (strOfNums body) 0) body [] [] body (.slice none 0 0)) := ⟨by simp [pies], byt_nil, .nil, own_nil _ _ _ _ _, by simpa [pies] using World.iter_heap w (strOfNums body) 0, fresh_alloc w _⟩
    generalize strOfNums ([34] ++ body) = st at *
    obtain ⟨s, es⟩ : ∃ s, s = strOfNums body := ⟨_, rfl⟩
    have ES := hidd es
    rw [← es] at HC hsz HI0
    clear es
    go_enter Tryd.func10, Tryd.ntmps10
    go_upto_region 6 with (go_at_call 24; with_reducible refine (HC.out _).mono ?_; rintro e w0 ⟨rfl, hw'⟩; subst hw')
    clear HC
    go_wp2
    go_loopw [7, 8] (fun out fr wr => ∃ b ch rest, fr = .int .i64 ((pies b).length : Int) ∧ Hid (UqI w0 wr body b ch rest out)) (fun _ _ wr => body.length - wr.iterPos w0.heap.size)
    case atStart => exact ⟨[], [], body, by simp [pies], HI0.out⟩
    case round =>
      clear HI0
      obtain ⟨b, ch, rest, rfl, hI⟩ := hrel
      have HW := hidd (HE.out.fresh hI.out.low)
      have hbn : (pies b).length + ch.length + rest.length = body.length := by rw [hI.out.eq]; simp; omega
      have hpb := pies_len b
      cases rest with
      | nil =>
        have hnx : ∀ ty, (Instr.next (.pointer (some ⟨w0.heap.size, 0, none⟩)) true ty).run Tryd.prog wr = _ := fun ty => Lib.run_next_end_at wr w0.heap.size s _ ty (by rw [ES.out]; exact hI.out.it) (by rw [hsz, ← hbn]; simp)
        have HN : Hid (¬ ∃ b', UnqP ([34] ++ body) b') := by
          have := unq_end hI.out.byt hI.out.part
          rw [← hI.out.eq] at this
          exact this
        have HL := hidd hI.out.low
        clear hI
        go_wp2
        go_ret3
        exact ⟨.inr ⟨HN.out, rfl⟩, HL.out⟩
      | cons x rest =>
        obtain ⟨hat, hpos⟩ := hI.out.at_
        have hxb := byt_get HBY.out hpos
        rw [hat] at hxb
        obtain ⟨X, rfl⟩ := Int.eq_ofNat_of_zero_le hxb.1
        have hX : X ≤ 255 := by omega
        obtain ⟨F, eF⟩ : ∃ F, F = (pies b).length := ⟨_, rfl⟩
        obtain ⟨P, eP⟩ : ∃ P, P = F + ch.length := ⟨_, rfl⟩
        have hPs : P < s.size := by rw [hsz, eP, eF]; exact hpos
        have hax : ∀ h, (s[P]'h).toNat = X := by
          rw [ES.out]
          intro h
          have := str_at HBY.out (k := P) (by rw [eP, eF]; exact hpos) h
          rw [this, eP, eF, hat]
          simp
        have hit : wr.heap[w0.heap.size]? = some (.stringIter s P) := by rw [ES.out, eP, eF]; exact hI.out.it
        by_cases h126 : 126 < X
        · obtain ⟨r1, r2⟩ := dec_hi (s := s) hPs (by rw [hax]; exact h126)
          have hnx : ∀ ty, (Instr.next (.pointer (some ⟨w0.heap.size, 0, none⟩)) true ty).run Tryd.prog wr = _ := fun ty => Lib.run_next_any_at wr w0.heap.size s P ty hit hPs
          have HN : Hid (¬ ∃ b', UnqP ([34] ++ body) b') := by
            have := unq_high (rest := rest) (x := X) hI.out.byt hI.out.part (by omega)
            rw [← hI.out.eq] at this
            exact this
          have HL := hidd (Lib.below_iterAt hI.out.low (Nat.le_refl _) s (P + (Utf8.decode s P).2))
          generalize (Utf8.decode s P).1 = R at *
          generalize (Utf8.decode s P).2 = R2 at *
          have b1 : decide ((126 : Int) < (R : Int)) = true := by simp; omega
          have b2 : decide (126 < R) = true := by simp; omega
          generalize wr.iterAt w0.heap.size s (P + R2) = w2 at *
          clear hI hit hax
          go_wp2
          go_ret3
          exact ⟨.inr ⟨HN.out, rfl⟩, HL.out⟩
        · have hdl := dec_low (s := s) hPs (by rw [hax]; omega)
          have hnx : ∀ ty, (Instr.next (.pointer (some ⟨w0.heap.size, 0, none⟩)) true ty).run Tryd.prog wr = _ := fun ty => Lib.run_next_any_at wr w0.heap.size s P ty hit hPs
          rw [hdl, hax] at hnx
          simp only at hnx
          obtain ⟨ho2, hi2, hl2⟩ := hI.out.next
          rw [← eF, ← eP, ← ES.out] at ho2 hi2 hl2
          have hpc := hI.out.piece
          rw [← eF, ← eP] at hpc
          have hex : s.extract F (P + 1) = strOfNums (ch ++ [(X : Int)]) := by rw [ES.out, str_ext, hpc]
          have hBp : Byt (ch ++ [(X : Int)]) := by rw [← hpc]; exact (HBY.out.take _).drop _
          have heq := str_eq hBp b34
          rw [s34, l34] at heq
          have hpl : (strOfNums (ch ++ [(X : Int)])).size = ch.length + 1 := by rw [strOfNums_size]; simp
          have HP := hidd hI.out.part
          have HEQ := hidd hI.out.eq
          have HBB := hidd hI.out.byt
          have HII := hidd hI.out
          have HIT : Hid ((wr.iterAt w0.heap.size s (P + 1)).iterPos w0.heap.size = P + 1 ∧ wr.iterPos w0.heap.size = P) := by
            show _ ∧ _
            unfold World.iterPos
            rw [hi2, hit]
            exact ⟨rfl, rfl⟩
          have g1 : (F : Int) ≤ (P : Int) + 1 := by omega
          have g2 : (P : Int) + 1 ≤ (s.size : Int) := by omega
          have g3 : P < body.length := by omega
          have b1 : decide ((126 : Int) < (X : Int)) = false := by simp; omega
          have b2 : decide (126 < X) = false := by simp; omega
          have HE2 := hidd (HE.out.fresh hl2)
          have EF := hidd eF
          have EP := hidd eP
          rw [← eF] at hpb ⊢
          clear hI hit hax hdl hpc hat hpos eF eP
          obtain ⟨ao, cp, rfl, _⟩ := ho2.rd
          have HO2 := hidd ho2
          have HI2 := hidd hi2
          have HL2 := hidd hl2
          clear ho2 hi2 hl2
          generalize wr.iterAt w0.heap.size s (P + 1) = w2 at *
          have HPL := hidd (fun w => plen_any hBp w)
          by_cases h34 : ch ++ [(X : Int)] = [34]
          · simp only [h34, decide_true] at heq
            have hch : ch = [] ∧ X = 34 := by
              cases ch with
              | nil => simp at h34; exact ⟨rfl, by omega⟩
              | cons a r => simp at h34
            obtain ⟨rfl, rfl⟩ := hch
            have HU : Hid (UnqP (34 :: body) b) := ⟨HBB.out, rest, by rw [HEQ.out]; simp [lit]⟩
            have HLE : Hid (((P : Int) + 2) = ((lit b).length : Int)) := by
              show _ = _
              have := lit_len b
              have e1 := EP.out
              have e2 := EF.out
              simp at e1
              omega
            clear h34 HII HP HPL
            rw [show [] ++ [((34 : Nat) : Int)] = [34] from rfl] at hex hpl
            generalize strOfNums [34] = sp at *
            go_wp2
            go_ret3
            exact ⟨.inl ⟨b, ao, cp, HU.out, by rw [← HLE.out]; rfl, HO2.out.weaken (by omega)⟩, HL2.out⟩
          · simp only [h34, decide_false] at heq
            by_cases hpn : plen (ch ++ [(X : Int)]) ≤ (ch ++ [(X : Int)]).length
            · have hp4 := plen_bd (ch ++ [(X : Int)])
              have hb4 : plen (ch ++ [(X : Int)]) ≤ ch.length + 1 := by simp at hpn; omega
              have b3 : decide (((ch.length : Int) + 1) < (plen (ch ++ [(X : Int)]) : Int)) = false := by simp; omega
              have b4 : decide ((ch.length + 1) < plen (ch ++ [(X : Int)])) = false := by simp; omega
              by_cases hyes : ∃ c, (0 ≤ c ∧ c ≤ 255) ∧ ch ++ [(X : Int)] = pie c
              · obtain ⟨c, hc, ec⟩ := hyes
                have HBO := hidd (fun w => byteOf_yes HP.out hBp hc ec w)
                have HFIN : Hid (∀ (w5 : World) (v5 : Value), Own w5 (w0.heap.size + 1) 5 1 v5 (b.length + 1) (byc (b ++ [c])) → w5.heap[w0.heap.size]? = some (.stringIter s (P + 1)) → Below w0.heap.size w0 w5 → UqI w0 w5 body (b ++ [c]) [] rest v5) := fun w5 v5 h1 h2 h3 => HII.out.byte hc ec h1 (by rw [h2, ES.out, EP.out, EF.out]) h3
                have HNB : Hid (byc (b ++ [c]) b.length = .int .u8 c) := by
                  show _ = _
                  unfold byc
                  simp [List.getD_eq_getElem?_getD]
                have HCG : Hid (Own w2 (w0.heap.size + 1) 5 1 (.slice ao b.length cp) b.length (byc (b ++ [c]))) := HO2.out.congr (fun j hj => by
                  unfold byc
                  rw [Nat.mul_one] at hj
                  simp [List.getD_eq_getElem?_getD, List.getElem?_append_left hj])
                have HF1 : Hid ((P : Int) + 1 = ((pies (b ++ [c])).length : Int)) := by
                  show _ = _
                  have e1 := EP.out
                  have e2 := EF.out
                  have e3 := congrArg List.length ec
                  rw [pies_app, pies_one, List.length_append]
                  simp at e3
                  omega
                clear HII h34 hpn hc ec HO2 HP
                generalize plen (ch ++ [(X : Int)]) = PL at *
                generalize strOfNums (ch ++ [(X : Int)]) = sp at *
                generalize ch.length = CL at *
                go_upto_region 16 with (first | (go_at_call 25; with_reducible refine (HPL.out _).mono ?_; rintro e w3 ⟨rfl, hw3⟩; rw [hw3]; clear hw3) | (go_at_call 26; with_reducible refine (HBO.out _).mono ?_; rintro e w4 ⟨rfl, hf4⟩))
                have HO4 := hidd (HCG.out.kept hf4)
                have hi4 : w4.heap[w0.heap.size]? = some (.stringIter s (P + 1)) := by rw [hf4.block _ (iter_lt HI2.out)]; exact HI2.out
                have HL4 := hidd (fresh_trans HL2.out hf4)
                have hz4 := HL4.out.size
                have hz5 : w0.heap.size + 1 ≤ w4.heap.size := iter_lt hi4
                clear HCG HI2 HL2 hf4
                go_wp2_with (at_builtin; refine wpList_app1 _ rfl _ _ 22 rfl (w0.heap.size + 1) 5 (.int .u8 0) 1 Tryd.underlying22 infoB rfl _ b.length (byc (b ++ [c])) rfl (HO4.out.kept (fresh_alloc _ _)) _ 1 rfl (by rw [HNB.out]; exact new_cell _ _ _) (by rw [HNB.out]; rfl) (by omega) (by omega) (by simp; omega) ?_)
                intro v5 w5 ho5 ha5
                have hl5 := ha5.below (HL4.out.alloc hz4 _) (HO4.out.kept (fresh_alloc _ _)) (by omega) (by simp; omega)
                have hi5 : w5.heap[w0.heap.size]? = some (.stringIter s (P + 1)) := by
                  refine ha5.iter (k := w0.heap.size) ?_ ?_
                  · rw [(fresh_alloc w4 _).block _ (iter_lt hi4)]; exact hi4
                  · intro e
                    have := (HO4.out.lt _ e).1
                    omega
                have HN := hidd (HFIN.out w5 v5 ho5 hi5 hl5)
                have HIT5 : Hid (w5.iterPos w0.heap.size = P + 1) := by
                  show _ = _
                  unfold World.iterPos
                  rw [hi5]
                obtain ⟨a5, c5, rfl, _⟩ := ho5.rd
                clear ha5 ho5 hl5 hi5
                go_wp2
                go_roundw
                case rel => exact ⟨b ++ [c], [], rest, by rw [← HF1.out], HN.out⟩
                case measure => rw [HIT5.out, HIT.out.2]; omega
              · have hno : ∀ c, 0 ≤ c ∧ c ≤ 255 → ch ++ [(X : Int)] ≠ pie c := fun c hc e => hyes ⟨c, hc, e⟩
                have HBO := hidd (fun w hE => byteOf_nope (w := w) HP.out hBp hpn hno hE)
                have HN : Hid (¬ ∃ b', UnqP (34 :: body) b') := by
                  have := unq_none (rest := rest) HBB.out HP.out h34 hpn hno
                  rw [← HEQ.out] at this
                  exact this
                clear HII h34 hpn hyes hno HO2 HP
                generalize plen (ch ++ [(X : Int)]) = PL at *
                generalize strOfNums (ch ++ [(X : Int)]) = sp at *
                generalize ch.length = CL at *
                go_wp2_with (first | (go_at_call 25; with_reducible refine (HPL.out _).mono ?_; rintro e w3 ⟨rfl, hw3⟩; rw [hw3]; clear hw3) | (go_at_call 26; with_reducible refine (HBO.out _ HE2.out).mono ?_; rintro e w4 ⟨c4, rfl, hf4⟩))
                go_ret3
                exact ⟨.inr ⟨HN.out, rfl⟩, fresh_trans HL2.out hf4⟩
            · have HPT := hidd (part_next HP.out hpn)
              have hp4 := plen_bd (ch ++ [(X : Int)])
              have hb4 : ch.length + 1 < plen (ch ++ [(X : Int)]) := by simp at hpn; omega
              have HNI : Hid (UqI w0 w2 body b (ch ++ [(X : Int)]) rest (.slice ao b.length cp)) := HII.out.more HPT.out HO2.out (by rw [HI2.out, ES.out, EP.out, EF.out]) HL2.out
              clear HII HPT HO2 HI2 h34 hpn
              generalize plen (ch ++ [(X : Int)]) = PL at *
              generalize strOfNums (ch ++ [(X : Int)]) = sp at *
              have b3 : decide (((ch.length : Int) + 1) < (PL : Int)) = true := by simp; omega
              have b4 : decide ((ch.length + 1) < PL) = true := by simp; omega
              generalize ch.length = CL at *
              go_wp2_with (go_at_call 25; with_reducible refine (HPL.out _).mono ?_; rintro e w3 ⟨rfl, hw3⟩; subst hw3)
              go_roundw
              case rel => exact ⟨b, ch ++ [(X : Int)], rest, by rw [EF.out], HNI.out⟩
              case measure => rw [HIT.out.1, HIT.out.2]; omega
  · simp only [hq, decide_false, if_false, s34] at HC
    have hno : ¬ ∃ b, UnqP t b := fun ⟨b, h⟩ => by
      obtain ⟨z, e⟩ := h.body
      exact hq ⟨pies b ++ 34 :: z, by rw [e]; rfl⟩
    have HN := hidd hno
    clear hno hq
    generalize strOfNums t = st at *
    go_enter Tryd.func10, Tryd.ntmps10
    go_wp2_with (go_at_call 24; with_reducible refine (HC.out _).mono ?_; rintro e w' ⟨rfl, hw'⟩; subst hw')
    go_ret3
    exact ⟨.inr ⟨HN.out, rfl⟩, Below.refl _ _⟩
theorem unq_ok {t b : List Int} (ht : Byt t) (hl : t.length ≤ 140737488351232) (hb : UnqP t b) {w : World} (hE : Errs w) :
    Calls Tryd.prog 10 #[.string (strOfNums t)] w fun e w' => ∃ ao cap, e = .returned (.tuple #[.slice ao b.length cap, .int .i64 ((lit b).length : Int), .int .i64 0]) ∧ Own w' w.heap.size 5 1 (.slice ao b.length cap) b.length (byc b) ∧ Below w.heap.size w w' :=
  (unq_any ht hl hE).mono (by
    rintro e w' ⟨⟨b', ao, cap, h, rfl, ho⟩ | ⟨h, _⟩, hf⟩
    · obtain rfl := hb.uniq h
      exact ⟨ao, cap, rfl, ho, hf⟩
    · exact absurd ⟨b, hb⟩ h)
theorem unq_bad {t : List Int} (ht : Byt t) (hl : t.length ≤ 140737488351232) (hb : ¬ ∃ b, UnqP t b) {w : World} (hE : Errs w) :
    Calls Tryd.prog 10 #[.string (strOfNums t)] w fun e w' => e = .returned (.tuple #[.slice none 0 0, .int .i64 0, .int .i64 220]) ∧ Below w.heap.size w w' :=
  (unq_any ht hl hE).mono (by
    rintro e w' ⟨⟨b', ao, cap, h, rfl, ho⟩ | ⟨h, rfl⟩, hf⟩
    · exact absurd ⟨b', h⟩ hb
    · exact ⟨rfl, hf⟩)
end Go.Proofs.YtemmghneohnigaaDoor
