import Derived.Test.YtemmghneohnigaaDoorWzB
import Derived.Deep.MidRow
namespace Go.Proofs.YtemmghneohnigaaDoor
open Go.RowKit
/-! WireApart, the law. -/
theorem infoLn : (Tryd.prog.info? 38).map (fun i => (i.zero, i.size, i.bytes)) = some (some (.agg lz7), 7, 120) := by kernel_rfl
theorem sizeLnY : (Tryd.prog.info? 38).map (·.size) = some 7 := by kernel_rfl
theorem row_size (d : LnD) (x : LnX) : (d.row x).size = 7 := rfl
theorem row_one (d : LnD) (x : LnX) : ∀ j, j < 7 → ((d.row x).getD j undef).oneCell' = true := fun j hj => by
  match j, hj with
  | 0, _ => rfl
  | 1, _ => rfl
  | 2, _ => rfl
  | 3, _ => rfl
  | 4, _ => rfl
  | 5, _ => rfl
  | 6, _ => rfl
theorem wpList_load_row7 {P : Program} {ops : Array Oper} {rest : List Oper} {op : Oper} {a : Act} {w : World} {Q : Exit → Act → World → Prop} (hgd : op.guard = none) (ty : TypeId) (x : Operand) (ho : op.op = .load ty x)
    (b o : Nat) (hx : a.eval x = .pointer (some ⟨b, o, none⟩)) (cs : Array Value) (d : TypeDesc) (hc : w.rangeAt b o cs.toList)
    (hu : P.underlying ty = some d) (hd : d.isRow = true) (hi : (P.info? ty).map (·.size) = some cs.size)
    (h : wpList P ops Q rest (a.put op.dst (.agg cs)) w) : wpList P ops Q (op :: rest) a w :=
  wpList_load_mid hgd ty x ho b o hx cs.toList d hc hu hd (by simpa using hi) (by simpa using h)
theorem yieldsIf_row7 {P : Program} {ops : Array Oper} {S : World → Prop} {op : Oper} {a : Act} (hw : Region.wanted op (yielded ops a.tmps) = true) (ty : TypeId) (x : Operand) (ho : op.op = .load ty x)
    (b o : Nat) (hx : a.eval x = .pointer (some ⟨b, o, none⟩)) (cs : Array Value) (d : TypeDesc) (hS : ∀ w, S w → w.rangeAt b o cs.toList)
    (hu : P.underlying ty = some d) (hd : d.isRow = true) (hi : (P.info? ty).map (·.size) = some cs.size) : YieldsIf P ops S op (.agg cs) a := by
  have := yieldsIf_load_mid hw ty x ho b o hx cs.toList d hS hu hd (by simpa using hi)
  simpa using this
theorem range_row {w : World} {lo : Option Addr} {N lc : Nat} {cs : Nat → Value} (h : RdA w lo 7 N lc cs) {k : Nat} (hk : k < N) {r : Array Value} (hs : r.size = 7) (hr : ∀ j, j < 7 → cs (k * 7 + j) = r.getD j undef) : ∃ b off, lo = some ⟨b, off, none⟩ ∧ w.rangeAt b (off + k * 7) r.toList := by
  obtain ⟨b, off, e, hc⟩ := h.at_ (by omega)
  refine ⟨b, off, e, fun j v hv => ?_⟩
  have hj : j < 7 := by
    have := (List.getElem?_eq_some_iff.1 hv).1
    simp at this
    omega
  rw [Nat.add_assoc, hc (k * 7 + j) (by omega), hr j hj]
  have : r[j]? = some v := by simpa using hv
  simp [this]
theorem strm_at {E : List SE} {m : Nat} {e : SE} (h : E[m]? = some e) : strm E = strm (E.take m) ++ (e.x ++ 10 :: strm (E.drop (m + 1))) := by
  obtain ⟨hl, he⟩ := List.getElem?_eq_some_iff.1 h
  have : E = E.take m ++ (e :: E.drop (m + 1)) := by rw [← he, ← List.drop_eq_getElem_cons hl, List.take_append_drop]
  conv => lhs; rw [this]
  rw [strm_app]
  rfl
theorem strm_look {E : List SE} (hG : ∀ e ∈ E, e.Good) {m r : Nat} {e : SE} (h : E[m]? = some e) (hr : r ≤ e.x.length) : (strm (E.take m)).length + r < (strm E).length ∧ (True ∧ (r < e.x.length → 32 ≤ (strm E).getD ((strm (E.take m)).length + r) 0) ∧ (r = e.x.length → (strm E).getD ((strm (E.take m)).length + r) 0 = 10)) ∧ (strm (E.take (m + 1))).length = (strm (E.take m)).length + e.x.length + 1 ∧ ((strm E).take ((strm (E.take m)).length + e.x.length)).drop (strm (E.take m)).length = e.x := by
  have e1 := strm_at h
  have hA := (txt_asc (hG e (List.mem_of_getElem? h)).ok (hG e (List.mem_of_getElem? h)).tx).1
  have e2 : E.take (m + 1) = E.take m ++ [e] := by rw [List.take_add_one, h]; rfl
  have e3 : strm (E.take (m + 1)) = strm (E.take m) ++ (e.x ++ [10]) := by rw [e2, strm_app]; simp [strm]
  generalize strm (E.take m) = A at *
  generalize strm (E.drop (m + 1)) = B at *
  rw [e1, e3]
  refine ⟨by simp; omega, ⟨trivial, fun q => ?_, fun q => ?_⟩, by simp; omega, ?_⟩
  · rw [List.getD_eq_getElem?_getD, List.getElem?_append_right (by omega), show A.length + r - A.length = r by omega, List.getElem?_append_left q, List.getElem?_eq_getElem q]
    exact (hA _ (List.getElem_mem _)).1
  · subst q
    rw [List.getD_eq_getElem?_getD, List.getElem?_append_right (by omega), show A.length + e.x.length - A.length = e.x.length by omega, List.getElem?_append_right (by omega)]
    simp
  · rw [← List.append_assoc, List.take_append_of_le_length (by simp), List.take_of_length_le (by simp)]
    simp
/-- one line more in a list of lines: what the append asks -/
theorem app_se {w4 w5 : World} {base : Nat} {v : Value} {E : List SE} {e : SE} (ho : Own w4 base 38 7 v E.length (rowsF E)) (f : Below w4.heap.size w4 w5) :
    Own (w5.alloc (.cells (e.d.row e.y) 38)) base 38 7 v E.length (rowsF (E ++ [e])) ∧ (∀ j, j < 1 * 7 → (w5.alloc (.cells (e.d.row e.y) 38)).cell? ⟨w5.heap.size, j, none⟩ = some (rowsF (E ++ [e]) (E.length * 7 + j))) ∧ (∀ j, j < 1 * 7 → (rowsF (E ++ [e]) (E.length * 7 + j)).oneCell' = true) := by
  refine ⟨((ho.kept f).kept (fresh_alloc _ _)).congr (fun j hj => rowsF_app hj), fun j hj => ?_, fun j hj => ?_⟩
  · rw [rowsF_new (by omega), (Blk.new w5 38 (e.d.row e.y)).cell j]
    have : j < (e.d.row e.y).size := by rw [row_size]; omega
    simp [this]
  · rw [rowsF_new (by omega)]
    exact row_one _ _ j (by omega)
set_option maxRecDepth 20000 in
set_option maxHeartbeats 16000000 in
theorem apart_law {w : World} {lo : Option Addr} {lc N : Nat} {D : Nat → LnD} {X : Nat → LnX} (hl : RdA w lo 7 N lc (fun j => ((D (j / 7)).row (X (j / 7))).getD (j % 7) undef)) (hD : ∀ i, i < N → (D i).Ok ∧ LnR w (D i) (X i)) (hN : N ≤ 1172812402926) (hE : Env w) :
    Calls Tryd.prog 6 #[.slice lo N lc] w fun e w' => e = .returned (.bool true) ∧ Below w.heap.size w w' := by
  have HLS := hidd hl
  have HD := hidd hD
  have HE := hidd hE
  have HWK := hidd (works_any hE)
  clear hl hD hE
  go_enter Tryd.func6, Tryd.ntmps6
  go_upto_region 2 with (go_at_call 8; with_reducible refine (HWK.out).mono ?_; rintro e w1 ⟨rfl, f1⟩; have F1 := hidd f1; clear f1 HWK)
  go_wp2
  go_loopw [4, 5, 6] (fun s v i wr => ∃ k : Nat, k ≤ N ∧ i = .int .i64 (k : Int) ∧ ∃ E : List SE, E.length ≤ k ∧ Hid (∀ e ∈ E, e.Good) ∧ s = .string (strOfNums (strm E)) ∧ Hid (Own wr w.heap.size 38 7 v E.length (rowsF E)) ∧ Hid (∀ e ∈ E, LnO wr e.d e.y) ∧ Hid (Below w.heap.size w wr)) (fun _ _ i _ => N - (intOf i).toNat)
  case atStart => exact ⟨0, by omega, rfl, [], by simp, (fun e he => nomatch he), rfl, own_nil _ _ _ _ _, (fun e he => nomatch he), F1⟩
  case round =>
    obtain ⟨k, hk, rfl, E, hEl, HG, rfl, HO, HL, HF⟩ := hrel
    by_cases hlt : k < N
    · obtain ⟨d, ed⟩ : ∃ d, d = D k := ⟨_, rfl⟩
      obtain ⟨x, ex⟩ : ∃ x, x = X k := ⟨_, rfl⟩
      have HOk : Hid d.Ok := by rw [ed]; exact (HD.out k hlt).1
      have HRd : Hid (LnR w d x) := by rw [ed, ex]; exact (HD.out k hlt).2
      have HRW : Hid (∀ j, j < 7 → (fun j => ((D (j / 7)).row (X (j / 7))).getD (j % 7) undef) (k * 7 + j) = (d.row x).getD j undef) := fun j hj => by
        show ((D ((k * 7 + j) / 7)).row (X ((k * 7 + j) / 7))).getD ((k * 7 + j) % 7) undef = _
        rw [show (k * 7 + j) / 7 = k by omega, show (k * 7 + j) % 7 = j by omega, ed, ex]
      clear ed ex
      have HGV := hidd (fun (w1 : World) (f1 : Below w.heap.size w w1) => given_r (HRd.out.fresh f1) HOk.out)
      have HPR := hidd (fun (w1 : World) (y : LnX) (f1 : Below w.heap.size w w1) (h : LnR w1 d y) => print_r h HOk.out (HE.out.fresh f1))
      obtain ⟨b, off, rfl, hrg⟩ := range_row (HLS.out.fresh HF.out) hlt (row_size d x) HRW.out
      have HRG := hidd hrg
      have HRL : Hid (∀ w2 : World, Below wr.heap.size wr w2 → w2.rangeAt b (off + k * 7) (d.row x).toList) := fun w2 f j v hv => fresh_cell f (hrg j v hv)
      have SR : Hid ((Tryd.prog.info? 35).map (·.size) = some (d.row x).size) := sizeRl
      clear hrg
      have k0 : (0 : Int) ≤ (k : Int) := by omega
      have k1 : (k : Int) < (N : Int) := by omega
      have C1 := hidd (HGV.out wr HF.out)
      go_upto_region 8 with (first
        | refine wpList_load_row7 rfl 35 _ rfl b (off + k * 7) rfl (d.row x) _ HRG.out Tryd.underlying35 rfl SR.out ?_
        | (go_at_call 15; (with_reducible refine (C1.out).mono ?_); rintro e w3 ⟨y, rfl, o3, f3⟩; have F3 := hidd (fresh_trans HF.out f3); have C2 := hidd (HPR.out w3 y F3.out o3.rd))
        | (go_at_call 14; (with_reducible refine (C2.out).mono ?_); rintro e w4 ⟨⟨tx, htx, rfl⟩ | rfl, f4⟩))
      · have F4 := hidd (fresh_trans F3.out f4)
        have F4r := fresh_trans f3 f4
        have C3 : Hid (Calls Tryd.prog 15 #[.agg (d.row x)] w4 fun e w' => ∃ p1 q1 p2 q2 p3 q3, e = .returned (.agg #[.string (strOfNums d.wl), .int .i64 d.n, .slice p1 d.t.length q1, .slice p2 d.nums.length q2, .int .u64 (d.u : Int), .string (strOfNums d.g), .slice p3 d.st.length q3]) ∧ LnO w' d ⟨p1, q1, p2, q2, p3, q3⟩ ∧ Below w4.heap.size w4 w') := (HGV.out w4 F4.out).mono (by
          rintro e w' ⟨⟨p1, q1, p2, q2, p3, q3⟩, rfl, o, f⟩
          exact ⟨p1, q1, p2, q2, p3, q3, rfl, o, f⟩)
        have HR4 := hidd (HRL.out w4 F4r)
        have HO4 := hidd (HO.out.kept F4r)
        have HL4 : Hid (∀ e ∈ E, LnO w4 e.d e.y) := fun e he => (HL.out e he).fresh F4r
        have HTX := hidd htx
        clear o3 f3 f4 F3 F4r C1 C2 HRG HRL HGV HPR HO HL HF htx HRW HRd
        have hx8 := (txt_asc HOk.out HTX.out).2
        have hE8 := strm_len E HG.out
        have zE := strOfNums_size (strm E)
        have zX := strOfNums_size tx
        obtain ⟨sE, eE⟩ : ∃ sE, sE = strOfNums (strm E) := ⟨_, rfl⟩
        obtain ⟨sX, eX⟩ : ∃ sX, sX = strOfNums tx := ⟨_, rfl⟩
        have HSN : Hid (∀ yy, sE ++ sX ++ ⟨#[10]⟩ = strOfNums (strm (E ++ [⟨d, yy, tx⟩]))) := fun yy => by
          rw [eE, eX, show (⟨#[10]⟩ : ByteArray) = strOfNums [10] from rfl, str_app, str_app, strm_app]
          simp [strm]
        rw [← eE] at zE ⊢
        rw [← eX] at zX ⊢
        clear eE eX
        have c1 : ¬ (9223372036854775807 : Int) < (sE.size : Int) + (sX.size : Int) := by omega
        have c3 : (sE ++ sX).size = sE.size + sX.size := ByteArray.size_append
        have c2 : ¬ (9223372036854775807 : Int) < (sE.size : Int) + (sX.size : Int) + 1 := by omega
        have c4 : (⟨#[10]⟩ : ByteArray).size = 1 := rfl
        go_upto_region 10 with fail
        clear c1 c2 c3 c4 zE zX
        generalize sE ++ sX ++ ⟨#[10]⟩ = sN at *

        have hbig := F4.out.size
        go_wp2_with (first
          | refine wpList_load_row7 rfl 35 _ rfl b (off + k * 7) rfl (d.row x) _ HR4.out Tryd.underlying35 rfl SR.out ?_
          | (go_at_call 15; (with_reducible refine (C3.out).mono ?_); rintro e w5 ⟨p1, q1, p2, q2, p3, q3, rfl, o5, f5⟩; have HAP := hidd (app_se (e := ⟨d, ⟨p1, q1, p2, q2, p3, q3⟩, tx⟩) HO4.out f5); unfold LnD.row at HAP)
          | (at_builtin; refine wpList_app _ rfl _ _ 45 rfl w.heap.size 38 (.agg lz7) 7 120 Tryd.underlying45 infoLn rfl (by decide) u5 E.length (rowsF (E ++ [⟨d, ⟨p1, q1, p2, q2, p3, q3⟩, tx⟩])) rfl HAP.out.1 _ 1 1 rfl HAP.out.2.1 HAP.out.2.2 (by decide) (by unfold maxLen; omega) (by omega) (by simp; have := f5.size; omega) ?_))
        intro v6 w6 hown happ
        have fa := fresh_trans f5 (fresh_alloc w5 (.cells (LnD.row d ⟨p1, q1, p2, q2, p3, q3⟩) 38))
        have HO6 : Hid (Own w6 w.heap.size 38 7 v6 (E ++ [(⟨d, ⟨p1, q1, p2, q2, p3, q3⟩, tx⟩ : SE)]).length (rowsF (E ++ [⟨d, ⟨p1, q1, p2, q2, p3, q3⟩, tx⟩]))) := by
          show Own _ _ _ _ _ _ _
          rw [List.length_append]
          exact hown
        have HF6 := hidd (happ.below (fresh_trans F4.out fa) HAP.out.1 (Nat.le_refl _) (Nat.le_trans hbig fa.size))
        have HL6 : Hid (∀ e ∈ E ++ [⟨d, ⟨p1, q1, p2, q2, p3, q3⟩, tx⟩], LnO w6 e.d e.y) := fun e he => by
          rcases List.mem_append.1 he with h | h
          · exact ((HL4.out e h).fresh fa).app HAP.out.1 happ
          · obtain rfl := List.mem_singleton.1 h
            exact (o5.fresh (fresh_alloc _ _)).app HAP.out.1 happ
        have HG6 : Hid (∀ e ∈ E ++ [⟨d, ⟨p1, q1, p2, q2, p3, q3⟩, tx⟩], e.Good) := fun e he => by
          rcases List.mem_append.1 he with h | h
          · exact HG.out e h
          · obtain rfl := List.mem_singleton.1 h
            exact ⟨HOk.out, HTX.out⟩
        clear hown happ fa HAP o5 f5 HL4 HO4 HR4 C3 F4 HG HOk HTX
        go_wp2
        go_roundw
        case rel => exact ⟨k + 1, by omega, by go_num, E ++ [⟨d, ⟨p1, q1, p2, q2, p3, q3⟩, tx⟩], by simp; omega, HG6, congrArg Value.string (HSN.out _), HO6, HL6, HF6⟩
        case measure => simp [intOf]; omega
      · have F4r := fresh_trans f3 f4
        have HO4 := hidd (HO.out.kept F4r)
        have HF4 := hidd (fresh_trans HF.out F4r)
        have HL4 : Hid (∀ e ∈ E, LnO w4 e.d e.y) := fun e he => (HL.out e he).fresh F4r
        clear o3 f3 f4 F3 F4r C1 C2 HRG HRL HGV HPR HO HL HF HRW HRd
        go_wp2
        go_roundw
        case rel => exact ⟨k + 1, by omega, by go_num, E, by omega, HG, rfl, HO4, HL4, HF4⟩
        case measure => simp [intOf]; omega
    · obtain rfl : N = k := by omega
      rename World => w2
      obtain ⟨vo, vc, rfl, hrv⟩ := HO.out.rd
      have HRV := hidd hrv
      clear hrv HO HD HLS
      have HSB := hidd (strm_byt E HG.out)
      have hsl := strm_len E HG.out
      have hsz := strOfNums_size (strm E)
      obtain ⟨sS, ESS⟩ : ∃ sS, Hid (sS = strOfNums (strm E)) := ⟨_, rfl⟩
      obtain ⟨Ln, ELn⟩ : ∃ Ln, Hid (Ln = (strm E).length) := ⟨_, rfl⟩
      rw [← ESS.out] at hsz ⊢
      rw [← ELn.out] at hsz hsl
      have AT : Hid (∀ (m r : Nat) (e : SE), E[m]? = some e → r ≤ e.x.length → (strm (E.take m)).length + r < Ln ∧ (∃ X : Nat, (∀ h, (sS[(strm (E.take m)).length + r]'h).toNat = X) ∧ (r < e.x.length → 32 ≤ X) ∧ (r = e.x.length → X = 10)) ∧ (strm (E.take (m + 1))).length = (strm (E.take m)).length + e.x.length + 1 ∧ sS.extract (strm (E.take m)).length ((strm (E.take m)).length + e.x.length) = strOfNums e.x) := fun m r e hm hr => by
        obtain ⟨h1, ⟨h2, h3, h4⟩, h5, h6⟩ := strm_look HG.out hm hr
        rw [← ELn.out] at h1
        have h1' : (strm (E.take m)).length + r < (strm E).length := by rw [← ELn.out]; exact h1
        refine ⟨h1, ⟨((strm E).getD ((strm (E.take m)).length + r) 0).toNat, fun h => ?_, fun q => ?_, fun q => ?_⟩, h5, ?_⟩
        · have hss := ESS.out
          subst hss
          exact str_at HSB.out h1' h
        · have := h3 q; omega
        · have := h4 q; omega
        · rw [ESS.out, str_ext, h6]
      have EN : Hid ((strm (E.take E.length)).length = Ln) := by show _ = _; rw [List.take_length, ELn.out]
      have SLe : Hid (∀ (d : LnD) (y : LnX), (Tryd.prog.info? 38).map (·.size) = some (d.row y).size) := fun _ _ => sizeLnY
      clear HSB ELn
      go_wp2
      go_loopw [9, 10, 11] (fun f n i wr => ∃ m r P A : Nat, m ≤ E.length ∧ f = .int .i64 (A : Int) ∧ n = .int .i64 (m : Int) ∧ i = .int .i64 (P : Int) ∧ Hid (A = (strm (E.take m)).length) ∧ Hid (P = A + r) ∧ Hid (∀ e, E[m]? = some e → r ≤ e.x.length) ∧ Hid (m = E.length → r = 0) ∧ P ≤ Ln ∧ Hid (Below w2.heap.size w2 wr)) (fun _ _ i _ => Ln - (intOf i).toNat)
      case atStart => exact ⟨0, 0, 0, 0, by omega, rfl, rfl, rfl, by show _ = _; simp [strm], by show _ = _; rfl, (fun e _ => Nat.zero_le _), (fun _ => rfl), Nat.zero_le _, Below.refl _ _⟩
      case round =>
        obtain ⟨m, r, P, A, hm, rfl, rfl, rfl, EA, EP, Hre, Hr0, hPL, HFr⟩ := hrel
        by_cases hlt : m < E.length
        · obtain ⟨e, hem⟩ : ∃ e, E[m]? = some e := ⟨E[m], List.getElem?_eq_getElem hlt⟩
          have hmem : e ∈ E := List.mem_of_getElem? hem
          obtain ⟨a1, ⟨X, hX, x1, x2⟩, a3, a4⟩ := AT.out m r e hem (Hre.out e hem)
          have HEM := hidd hem
          have HGe := hidd (HG.out e hmem)
          have HLe := hidd ((HL.out e hmem).rd.fresh HFr.out)
          rw [← EA.out] at a1 hX a3 a4
          rw [← EP.out] at a1 hX
          have hreL := Hre.out e hem
          have HA3 := hidd a3
          clear hmem hem a3
          have j0 : (0 : Int) ≤ (P : Int) := by omega
          have j1 : (P : Int) < (Ln : Int) := by omega
          by_cases hr : r < e.x.length
          · have hx32 := x1 hr
            have b1 : ((X : Int) != 10) = true := by simp; omega
            have b2 : ¬ (X : Int) = 10 := by omega
            have b3 : ¬ X = 10 := by omega
            clear x1 x2 a4
            go_wp2
            go_roundw
            case rel => exact ⟨m, r + 1, P + 1, A, hm, rfl, rfl, by go_num, EA, (by show _ = _; have := EP.out; omega), (fun e' he' => by rw [HEM.out] at he'; cases he'; omega), (fun q => by omega), by omega, HFr⟩
            case measure => simp [intOf]; omega
          · have hrx := hidd (show r = e.x.length by omega)
            have hx10 := x2 hrx.out
            subst hx10
            clear x1 x2 hr
            have EAP : Hid (A + e.x.length = P) := by show _ = _; have := EP.out; have := hrx.out; omega
            rw [EAP.out] at a4
            have i4 : A ≤ P := by have := EAP.out; omega
            have i1 : (0 : Int) ≤ (A : Int) := by omega
            have i2 : (A : Int) ≤ (P : Int) := by omega
            have i3 : (P : Int) ≤ (Ln : Int) := by omega
            have HPS : Hid (Calls Tryd.prog 16 #[.string (strOfNums e.x)] wr fun er w' => ∃ p1 q1 p2 q2 p3 q3, er = .returned (.tuple #[.agg #[.string (strOfNums e.d.wl), .int .i64 e.d.n, .slice p1 e.d.t.length q1, .slice p2 e.d.nums.length q2, .int .u64 (e.d.u : Int), .string (strOfNums e.d.g), .slice p3 e.d.st.length q3], .int .i64 0]) ∧ LnR w' e.d ⟨p1, q1, p2, q2, p3, q3⟩ ∧ Below wr.heap.size wr w') := (parse_r HGe.out.ok HGe.out.tx (HE.out.fresh (fresh_trans HF.out HFr.out))).mono (by
              rintro er w' ⟨⟨p1, q1, p2, q2, p3, q3⟩, rfl, o, f⟩
              exact ⟨p1, q1, p2, q2, p3, q3, rfl, o, f⟩)
            rw [← a4] at HPS
            clear a4
            obtain ⟨sw, ESW⟩ : ∃ sw, Hid (sw = strOfNums e.d.wl) := ⟨_, rfl⟩
            obtain ⟨gd, EGD⟩ : ∃ gd, Hid (gd = strOfNums e.d.g) := ⟨_, rfl⟩
            obtain ⟨tn, ETN⟩ : ∃ tn, Hid (tn = e.d.t.length) := ⟨_, rfl⟩
            obtain ⟨nn, ENN⟩ : ∃ nn, Hid (nn = e.d.nums.length) := ⟨_, rfl⟩
            obtain ⟨sn, ESN⟩ : ∃ sn, Hid (sn = e.d.st.length) := ⟨_, rfl⟩
            obtain ⟨en, EEN⟩ : ∃ en, Hid (en = e.d.n) := ⟨_, rfl⟩
            obtain ⟨eu, EEU⟩ : ∃ eu : Int, Hid (eu = (e.d.u : Int)) := ⟨_, rfl⟩
            rw [← ESW.out, ← EGD.out, ← ETN.out, ← ENN.out, ← ESN.out, ← EEN.out, ← EEU.out] at HPS
            go_upto_region 17 with fail
            clear hX a1
            go_upto_region 18 with (go_at_call 16; (with_reducible refine (HPS.out).mono ?_); rintro er w3 ⟨p1, q1, p2, q2, p3, q3, rfl, r3, f3⟩)
            have fa := fresh_alloc w3 (.cells #[.string sw, .int .i64 en, .slice p1 tn q1, .slice p2 nn q2, .int .u64 eu, .string gd, .slice p3 sn q3] 38)
            have HBl := hidd (Blk.new w3 38 #[.string sw, .int .i64 en, .slice p1 tn q1, .slice p2 nn q2, .int .u64 eu, .string gd, .slice p3 sn q3])
            have f3' := fresh_trans f3 fa
            have HR3 := hidd (r3.fresh fa)
            have HL3 := hidd (HLe.out.fresh f3')
            have HF3 := hidd (fresh_trans HFr.out f3')
            clear r3 f3 fa f3' HPS HLe HFr
            generalize w3.alloc (.cells #[.string sw, .int .i64 en, .slice p1 tn q1, .slice p2 nn q2, .int .u64 eu, .string gd, .slice p3 sn q3] 38) = wA at *
            obtain ⟨lb, elb⟩ : ∃ lb, lb = w3.heap.size := ⟨_, rfl⟩
            rw [← elb] at HBl ⊢
            clear elb
            obtain ⟨b5, o5, rfl, hrg⟩ := range_row (HRV.out.fresh HF3.out) hlt (row_size e.d e.y) (fun j hj => rowsF_at HEM.out hj)
            have RG : Hid (∀ y : LnX, e.d.row y = #[.string sw, .int .i64 en, .slice y.ao tn y.ac, .slice y.bo nn y.bc, .int .u64 eu, .string gd, .slice y.co sn y.cc]) := fun y => by rw [ESW.out, EGD.out, ETN.out, ENN.out, ESN.out, EEN.out, EEU.out]; rfl
            obtain ⟨r1, ER1⟩ : ∃ r, Hid (r = e.y.ao) := ⟨_, rfl⟩
            obtain ⟨r2, ER2⟩ : ∃ r, Hid (r = e.y.bo) := ⟨_, rfl⟩
            obtain ⟨r3, ER3⟩ : ∃ r, Hid (r = e.y.co) := ⟨_, rfl⟩
            obtain ⟨k1, EK1⟩ : ∃ r, Hid (r = e.y.ac) := ⟨_, rfl⟩
            obtain ⟨k2, EK2⟩ : ∃ r, Hid (r = e.y.bc) := ⟨_, rfl⟩
            obtain ⟨k3, EK3⟩ : ∃ r, Hid (r = e.y.cc) := ⟨_, rfl⟩
            have RY : Hid (e.d.row e.y = #[.string sw, .int .i64 en, .slice r1 tn k1, .slice r2 nn k2, .int .u64 eu, .string gd, .slice r3 sn k3]) := by show _ = _; rw [RG.out, ER1.out, ER2.out, ER3.out, EK1.out, EK2.out, EK3.out]
            rw [RY.out] at hrg
            have KS : Hid (∀ z : World, Below wA.heap.size wA z → z.cell? ⟨lb, 0, none⟩ = some (.string sw) ∧ z.cell? ⟨lb, 1, none⟩ = some (.int .i64 en) ∧ z.cell? ⟨lb, 2, none⟩ = some (.slice p1 tn q1) ∧ z.cell? ⟨lb, 3, none⟩ = some (.slice p2 nn q2) ∧ z.cell? ⟨lb, 4, none⟩ = some (.int .u64 eu) ∧ z.cell? ⟨lb, 5, none⟩ = some (.string gd) ∧ z.cell? ⟨lb, 6, none⟩ = some (.slice p3 sn q3) ∧ z.cell? ⟨b5, o5 + m * 7, none⟩ = some (.string sw) ∧ z.cell? ⟨b5, o5 + m * 7 + 1, none⟩ = some (.int .i64 en) ∧ z.cell? ⟨b5, o5 + m * 7 + 2, none⟩ = some (.slice r1 tn k1) ∧ z.cell? ⟨b5, o5 + m * 7 + 3, none⟩ = some (.slice r2 nn k2) ∧ z.cell? ⟨b5, o5 + m * 7 + 4, none⟩ = some (.int .u64 eu) ∧ z.cell? ⟨b5, o5 + m * 7 + 5, none⟩ = some (.string gd) ∧ z.cell? ⟨b5, o5 + m * 7 + 6, none⟩ = some (.slice r3 sn k3)) := fun z f => by
              have B := HBl.out.fresh f
              exact ⟨B.cell 0, B.cell 1, B.cell 2, B.cell 3, B.cell 4, B.cell 5, B.cell 6, fresh_cell f (hrg 0 _ rfl), fresh_cell f (hrg 1 _ rfl), fresh_cell f (hrg 2 _ rfl), fresh_cell f (hrg 3 _ rfl), fresh_cell f (hrg 4 _ rfl), fresh_cell f (hrg 5 _ rfl), fresh_cell f (hrg 6 _ rfl)⟩
            have HPL : Hid (∀ z : World, Below wA.heap.size wA z → Calls Tryd.prog 18 #[.agg #[.string sw, .int .i64 en, .slice r1 tn k1, .slice r2 nn k2, .int .u64 eu, .string gd, .slice r3 sn k3]] z fun er w' => ∃ y1 c1 y2 c2 y3 c3, er = .returned (.agg #[.string sw, .int .i64 en, .slice y1 tn c1, .slice y2 nn c2, .int .u64 eu, .string gd, .slice y3 sn c3]) ∧ LnR w' e.d ⟨y1, c1, y2, c2, y3, c3⟩ ∧ Below z.heap.size z w') := fun z f => by
              have q := plainly_r (d := e.d) (x := e.y) (HL3.out.fresh f) HGe.out.ok
              rw [RY.out] at q
              refine q.mono ?_
              rintro er w' ⟨⟨y1, c1, y2, c2, y3, c3⟩, rfl, h1, h2⟩
              exact ⟨y1, c1, y2, c2, y3, c3, by rw [RG.out], h1, h2⟩
            have HEQ : Hid (∀ (z : World) (y1 y2 y3 : Option Addr) (c1 c2 c3 : Nat), Below wA.heap.size wA z → LnR z e.d ⟨y1, c1, y2, c2, y3, c3⟩ → Calls Tryd.prog 17 #[.agg #[.string sw, .int .i64 en, .slice p1 tn q1, .slice p2 nn q2, .int .u64 eu, .string gd, .slice p3 sn q3], .agg #[.string sw, .int .i64 en, .slice y1 tn c1, .slice y2 nn c2, .int .u64 eu, .string gd, .slice y3 sn c3]] z fun er w' => er = .returned (.bool true) ∧ Below z.heap.size z w') := fun z y1 y2 y3 c1 c2 c3 f h => by
              have q := eq_r (d := e.d) (x := ⟨p1, q1, p2, q2, p3, q3⟩) (y := ⟨y1, c1, y2, c2, y3, c3⟩) (HR3.out.fresh f) h
              rw [RG.out, RG.out] at q
              exact q
            have m0 : (0 : Int) ≤ (m : Int) := by omega
            have m1 : (m : Int) < (E.length : Int) := by omega
            have m2 : decide ((E.length : Int) ≤ (m : Int)) = false := by simp; omega
            have m3 : ¬ (E.length ≤ m) := by omega
            clear hrg HBl HR3 HL3 HGe RG RY
            have B0 := hidd ((Below.refl wA.heap.size wA).drew)
            have s0 := KS.out wA.drew B0.out
            go_region_held3 (fun z => z.cell? ⟨lb, 0, none⟩ = some (.string sw) ∧ z.cell? ⟨lb, 1, none⟩ = some (.int .i64 en) ∧ z.cell? ⟨lb, 2, none⟩ = some (.slice p1 tn q1) ∧ z.cell? ⟨lb, 3, none⟩ = some (.slice p2 nn q2) ∧ z.cell? ⟨lb, 4, none⟩ = some (.int .u64 eu) ∧ z.cell? ⟨lb, 5, none⟩ = some (.string gd) ∧ z.cell? ⟨lb, 6, none⟩ = some (.slice p3 sn q3) ∧ z.cell? ⟨b5, o5 + m * 7, none⟩ = some (.string sw) ∧ z.cell? ⟨b5, o5 + m * 7 + 1, none⟩ = some (.int .i64 en) ∧ z.cell? ⟨b5, o5 + m * 7 + 2, none⟩ = some (.slice r1 tn k1) ∧ z.cell? ⟨b5, o5 + m * 7 + 3, none⟩ = some (.slice r2 nn k2) ∧ z.cell? ⟨b5, o5 + m * 7 + 4, none⟩ = some (.int .u64 eu) ∧ z.cell? ⟨b5, o5 + m * 7 + 5, none⟩ = some (.string gd) ∧ z.cell? ⟨b5, o5 + m * 7 + 6, none⟩ = some (.slice r3 sn k3))
              (first | with_reducible exact s0 | with_reducible exact s4 | with_reducible exact s5 | go_keep)
              (first
                | (go_at_call 18; with_reducible refine (HPL.out _ B0.out).mono ?_; rintro er w4 ⟨y1, c1, y2, c2, y3, c3, rfl, h4, f4⟩; have B4 := hidd (fresh_trans B0.out f4); have s4 := KS.out _ B4.out; have Q4 := hidd (HEQ.out _ y1 y2 y3 c1 c2 c3 B4.out h4))
                | (go_at_call 17; with_reducible refine (Q4.out).mono ?_; rintro er w5 ⟨rfl, f5⟩; have B5 := hidd (fresh_trans B4.out f5); have s5 := KS.out _ B5.out))
            have HF5 := hidd (fresh_trans HF3.out B5.out)
            clear s0 s4 s5 B0 B4 B5 h4 f4 f5 HPL HEQ Q4 KS HF3
            go_wp2
            go_roundw
            case rel => exact ⟨m + 1, 0, P + 1, P + 1, by omega, by go_num, by go_num, by go_num, (by show _ = _; have := HA3.out; have := EAP.out; omega), (by show _ = _; omega), (fun e' he' => Nat.zero_le _), (fun _ => rfl), by omega, HF5⟩
            case measure => simp [intOf]; omega
        · obtain rfl : E.length = m := by omega
          have h1 := EN.out
          rw [← EA.out] at h1
          have h2 := EP.out
          rw [Hr0.out rfl] at h2
          obtain rfl : A = Ln := h1
          obtain rfl : P = A := h2
          clear EA EP Hre Hr0 AT
          go_wp2
          go_ret
          exact ⟨rfl, fresh_trans HF.out HFr.out⟩
end Go.Proofs.YtemmghneohnigaaDoor
