import Derived.Test.YtakekdbclmgeoabCqF
namespace Go.Proofs.Ytakekdbclmgeoab
open Go.RowKit
/-! tokens, ways, has, within. -/
theorem tk_len {n : Nat} {P T D : Nat → Int} (h : okT n P T D) {i : Nat} (hi : i < n) : (tkL P T i).length + 1 = (wy P i).length := by
  obtain ⟨a1, _⟩ := wy_chain h i hi
  unfold tkL
  simp
  omega
theorem tk_get (P T : Nat → Int) (i k : Nat) (h : k + 1 < (wy P i).length) : (tkL P T i).getD k 0 = T ((wy P i).getD (k + 1) 0) := by
  unfold tkL
  rw [List.getD_eq_getElem?_getD, List.getElem?_map, List.getElem?_drop, Nat.add_comm, List.getElem?_eq_getElem h, List.getD_eq_getElem?_getD, List.getElem?_eq_getElem h]
  rfl
set_option maxRecDepth 20000 in
set_option maxHeartbeats 1600000 in
theorem tokens_any {n : Nat} {P T D : Nat → Int} (ht : okT n P T D) {i : Nat} (hi : i < n) {w : World} {ao : Option Addr} {cap : Nat} (h : RdA w ao 3 n cap (nds P T D)) :
    Calls Try.prog 39 #[.slice ao n cap, .int .i64 (i : Int)] w fun e w' => ∃ u c, e = .returned (.slice u (tkL P T i).length c) ∧ Own w' w.heap.size 3 1 (.slice u (tkL P T i).length c) (tkL P T i).length (lF (tkL P T i)) ∧ Below w.heap.size w w' := by
  have hn2 := ht.2.1
  have HK := hidd (way_any ht i hi h)
  obtain ⟨a1, _, _, a4, _⟩ := wy_chain ht i hi
  have hwl := (wy_len ht i hi).1
  have hlt := tk_len ht hi
  obtain ⟨b1, o1, rfl, hc⟩ := h.node (by omega)
  have HC := hidd hc
  have H4 := hidd a4
  have HTG := hidd (tk_get P T i)
  obtain ⟨lw, HLW⟩ : ∃ x, Hid (x = (wy P i).length) := ⟨_, rfl⟩
  obtain ⟨L, HL⟩ : ∃ x, Hid (x = tkL P T i) := ⟨_, rfl⟩
  rw [← HLW.out] at HK a1 hwl hlt H4 HTG
  rw [← HL.out] at hlt HTG ⊢
  clear hc h a4
  go_enter Try.func39, Try.ntmps39
  go_upto_region 3 with (go_at_call 42; with_reducible refine HK.out.mono ?_; rintro e w1 ⟨u, c, rfl, ho, hb⟩; have O1 := hidd (own_rda ho); have B1 := hidd hb; clear HK ho hb)
  obtain ⟨b2, o2, rfl, hc2⟩ := O1.out.one (by omega)
  have HC2 := hidd hc2
  clear hc2
  go_wp2
  go_loopw [5, 7] (fun s5 s7 wr => ∃ k : Nat, k + 1 ≤ lw ∧ s7 = .int .i64 ((k : Int) + 1) ∧ Hid (Own wr w1.heap.size 3 1 s5 k (lF L)) ∧ Hid (Below w1.heap.size w1 wr)) (fun _ s7 _ => lw - (intOf s7).toNat)
  case atStart => exact ⟨0, by omega, rfl, own_nil _ _ _ _ _, Below.refl _ _⟩
  case round =>
    obtain ⟨k, hk, rfl, HO, HF⟩ := hrel
    have hsz := HF.out.size
    by_cases hkl : k + 1 < lw
    · obtain ⟨y, HY⟩ : ∃ y, Hid (y = (wy P i).getD (k + 1) 0) := ⟨_, rfl⟩
      have hy : y < n := by rw [HY.out]; exact H4.out (k + 1) hkl
      have x1 := fresh_cell HF.out (HC2.out (k + 1) hkl)
      unfold qF at x1
      rw [← HY.out] at x1
      have x2 := fresh_cell HF.out (fresh_cell B1.out (HC.out y hy).2.1)
      obtain ⟨ty, HTY⟩ : ∃ x, Hid (x = T y) := ⟨_, rfl⟩
      rw [← HTY.out] at x2
      have k0 : (0 : Int) ≤ (k : Int) + 1 := by omega
      have k1 : (k : Int) + 1 < (lw : Int) := by omega
      have y0 : (0 : Int) ≤ (y : Int) := by omega
      have y1 : (y : Int) < (n : Int) := by omega
      have HX : Hid (∀ (w0 : World) (ty' : TypeId), (w0.alloc (.cells #[.int .i64 ty] ty')).cell? ⟨w0.heap.size, 0, none⟩ = some (lF L k)) := fun w0 ty' => by
        unfold lF
        rw [HTG.out k hkl, ← HY.out, ← HTY.out]
        exact new_cell _ _ _
      go_wp2_with (at_builtin; refine wpList_app1 _ rfl _ _ 45 rfl w1.heap.size 3 (.int .i64 0) 8 Try.underlying45 infoI rfl _ k (lF L) rfl (HO.out.kept (fresh_alloc _ _)) _ 1 rfl (HX.out _ _) rfl (by omega) (by omega) (by simp; omega) ?_)
      intro v' w4 hown' happ
      have HF4 := hidd (happ.below (HF.out.alloc hsz _) (HO.out.kept (fresh_alloc _ _)) (Nat.le_refl _) (by simp; omega))
      have HO4 := hidd hown'
      clear happ hown' HX
      go_wp2
      go_roundw
      case rel => exact ⟨k + 1, by omega, by go_num, HO4, HF4⟩
      case measure => simp [intOf]; omega
    · obtain rfl : k = L.length := by omega
      obtain ⟨u5, c5, rfl, _⟩ := own_sl HO.out
      have HB := hidd (B1.out.trans (HF.out.mono B1.out.size))
      go_wp2
      go_ret
      exact ⟨_, _, rfl, HO.out.weaken B1.out.size, HB.out⟩
theorem WsM.prep {w : World} {base : Nat} {v : Value} {WS : List (List Int)} {U : Nat → Option Addr} {K : Nat → Nat} (h : WsM w base v WS U K) (L : List Int) (u : Option Addr) (c : Nat) : Own w base 45 1 v WS.length (wsC (WS ++ [L]) (upd U WS.length u) (upd K WS.length c)) := h.own.congr (fun j hj => (wsC_old WS L U K u c (by omega)).symm)
theorem new_ws (WS : List (List Int)) (L : List Int) (U : Nat → Option Addr) (K : Nat → Nat) (u : Option Addr) (c : Nat) (w0 : World) (ty : TypeId) : (w0.alloc (.cells #[.slice u L.length c] ty)).cell? ⟨w0.heap.size, 0, none⟩ = some (wsC (WS ++ [L]) (upd U WS.length u) (upd K WS.length c) WS.length) := by rw [wsC_new]; exact new_cell _ _ _
theorem one_ws (WS : List (List Int)) (L : List Int) (U : Nat → Option Addr) (K : Nat → Nat) (u : Option Addr) (c : Nat) : (wsC (WS ++ [L]) (upd U WS.length u) (upd K WS.length c) WS.length).oneCell' = true := by rw [wsC_new]; rfl
def WtA (WS : List (List Int)) (w : World) (e : Ending) (w' : World) : Prop := ∃ a c U K, e = .returned (.slice a WS.length c) ∧ WsM w' w.heap.size (.slice a WS.length c) WS U K ∧ Below w.heap.size w w'
theorem WtA.mk {WS : List (List Int)} {w w' : World} {e : Ending} {a : Option Addr} {c : Nat} {U : Nat → Option Addr} {K : Nat → Nat} (h : e = .returned (.slice a WS.length c)) (q : WsM w' w.heap.size (.slice a WS.length c) WS U K) (b : Below w.heap.size w w') : WtA WS w e w' := ⟨a, c, U, K, h, q, b⟩
theorem WtA.out {WS : List (List Int)} {w w' : World} {e : Ending} (h : WtA WS w e w') : ∃ a c U K, e = .returned (.slice a WS.length c) ∧ WsM w' w.heap.size (.slice a WS.length c) WS U K ∧ Below w.heap.size w w' := h
/-- the ways of the nodes 1 to k -/
def tkW (P T : Nat → Int) (k : Nat) : List (List Int) := (List.range k).map (fun i => tkL P T (i + 1))
theorem tkW_succ (P T : Nat → Int) (k : Nat) : tkW P T (k + 1) = tkW P T k ++ [tkL P T (k + 1)] := by
  unfold tkW
  rw [List.range_succ, List.map_append]
  rfl
theorem tkW_len (P T : Nat → Int) (k : Nat) : (tkW P T k).length = k := by simp [tkW]
set_option maxRecDepth 20000 in
set_option maxHeartbeats 1600000 in
theorem wayst_any {n : Nat} {P T D : Nat → Int} (ht : okT n P T D) {w : World} {ao : Option Addr} {cap : Nat} (h : RdA w ao 3 n cap (nds P T D)) :
    Calls Try.prog 18 #[.slice ao n cap] w (WtA (tkW P T (n - 1)) w) := by
  have hn1 := ht.1
  have hn2 := ht.2.1
  have HH := hidd h
  have HT := hidd ht
  clear h ht
  go_enter Try.func18, Try.ntmps18
  go_wp2
  go_loopw [3, 4] (fun s3 s4 wr => ∃ k : Nat, k + 1 ≤ n ∧ s4 = .int .i64 ((k : Int) + 1) ∧ ∃ U K, Hid (WsM wr w.heap.size s3 (tkW P T k) U K) ∧ Hid (Below w.heap.size w wr)) (fun _ s4 _ => n - (intOf s4).toNat)
  case atStart => exact ⟨0, by omega, rfl, _, _, WsM.nil _ _, Below.refl _ _⟩
  case round =>
    obtain ⟨k, hk, rfl, U, K, HM, HF⟩ := hrel
    obtain ⟨a5, c5, rfl, _⟩ := own_sl HM.out.own
    obtain ⟨WS, HWS⟩ : ∃ x, Hid (x = tkW P T k) := ⟨_, rfl⟩
    have hwl : WS.length = k := by rw [HWS.out, tkW_len]
    rw [← HWS.out] at HM ⊢
    by_cases hkl : k + 1 < n
    · have k1 : (k : Int) + 1 < (n : Int) := by omega
      have hsz := HF.out.size
      obtain ⟨L, HL⟩ : ∃ x, Hid (x = tkL P T (k + 1)) := ⟨_, rfl⟩
      have K1 := tokens_any HT.out hkl (HH.out.fresh HF.out)
      rw [← HL.out] at K1
      have ek : ((k + 1 : Nat) : Int) = (k : Int) + 1 := by omega
      rw [ek] at K1
      have K1 := hidd K1
      have hWl : WS.length ≤ 32 := by omega
      have HWk := hidd hwl
      clear ek hwl
      go_upto_region 5 with fail
      go_wp2_with (first
        | (go_at_call 39; with_reducible refine K1.out.mono ?_; rintro e w2 ⟨u2, c2, rfl, ho, hb⟩; have N2 := hidd (ho.weaken hsz); have F2 := hidd (HF.out.trans (hb.mono HF.out.size)); have M2 := hidd (HM.out.kept hb); have hsz2 := F2.out.size; have HO3 := hidd (M2.out.prep L u2 c2); clear K1 ho hb)
        | (at_builtin; refine wpList_app1 _ rfl _ _ 36 rfl w.heap.size 45 (.slice none 0 0) 24 Try.underlying36 infoSI rfl _ WS.length (wsC (WS ++ [L]) (upd U WS.length u2) (upd K WS.length c2)) rfl (HO3.out.kept (fresh_alloc _ _)) _ 1 rfl (new_ws WS L U K u2 c2 _ _) (one_ws WS L U K u2 c2) (by omega) (by omega) (by simp; omega) ?_))
      intro v' w4 hown' happ
      have HF4 := hidd (happ.below (F2.out.alloc hsz2 _) (HO3.out.kept (fresh_alloc _ _)) (Nat.le_refl _) (by simp; omega))
      have M4 := hidd ((M2.out.kept (fresh_alloc w2 (.cells #[.slice u2 L.length c2] 45))).app (N2.out.kept (fresh_alloc w2 (.cells #[.slice u2 L.length c2] 45))) happ hown')
      have HE : Hid (tkW P T (k + 1) = WS ++ [L]) := by show _ = _; rw [tkW_succ, HWS.out, HL.out]
      clear happ hown' HO3
      go_wp2
      go_roundw
      case rel => exact ⟨k + 1, by omega, by go_num, _, _, by rw [HE.out]; exact M4, HF4⟩
      case measure => simp [intOf]; omega
    · have HE : Hid (tkW P T (n - 1) = WS) := by show _ = _; rw [HWS.out, show n - 1 = k by omega]
      have k1 : ¬ (k : Int) + 1 < (n : Int) := by omega
      clear hwl
      go_wp2
      go_ret
      rw [HE.out]
      exact WtA.mk rfl HM.out HF.out
end Go.Proofs.Ytakekdbclmgeoab
