import Derived.Test.YtakekdbclmgeoaaTpF
namespace Go.Proofs.Ytakekdbclmgeoaa
open Go.RowKit Go.Shelf
attribute [local go_sem] Oper.semAt_some
/-! TreePaths. -/
theorem below_put {B l : Nat} {w W : World} {ob ob' : Obj} (hl : W.heap[l]? = some ob) (hB : B ≤ l) (h : Below B w W) : Below B w (W.putObj l ob') :=
  h.trans ((Below.refl B W).grown (grownBy_putObj' W l ob') (by have := (Array.getElem?_eq_some_iff.1 hl).1; omega) (fun k e => by cases e; omega))
open Classical in
/-- how many ways there are -/
noncomputable def ptN (n : Nat) (P T D : Nat → Int) : Nat := if okT n P T D then (lvL n P).length else 0
open Classical in
noncomputable def ptW (n : Nat) (P T D : Nat → Int) : List (List Nat) := if okT n P T D then lwL n P n else []
theorem ptW_len (n : Nat) (P T D : Nat → Int) : (ptW n P T D).length = ptN n P T D := by
  unfold ptW ptN
  split
  · exact lwL_all n P
  · rfl
theorem ptW_at {n : Nat} {P T D : Nat → Int} {k : Nat} (h : k < ptN n P T D) : yAt (ptW n P T D) k = wy P ((lvL n P).getD k 0) := by
  unfold ptN at h
  unfold ptW
  split
  · rename_i q
    rw [if_pos q] at h
    exact lwL_at h
  · rename_i q
    rw [if_neg q] at h
    omega
theorem rpaths_any {w : World} {ao : Option Addr} {n cap : Nat} {P T D : Nat → Int} (h : RdA w ao 3 n cap (nds P T D)) :
    Calls Try.prog 24 #[.slice ao n cap] w fun e w' => ∃ a c U K, e = .returned (.slice a (ptW n P T D).length c) ∧ YsM w' w.heap.size (.slice a (ptW n P T D).length c) (ptW n P T D) U K ∧ Below w.heap.size w w' := by
  by_cases hk : okT n P T D
  · have e : ptW n P T D = lwL n P n := if_pos hk
    rw [e]
    exact rpaths_ok h hk
  · have e : ptW n P T D = [] := if_neg hk
    rw [e]
    refine (rpaths_bad h hk).mono ?_
    rintro e w' ⟨rfl, f⟩
    exact ⟨none, 0, _, _, rfl, YsM.nil _ _, f⟩
theorem paths_any {w : World} {b n cap : Nat} {P T D : Nat → Int} (h : RdA w (some ⟨b, 0, none⟩) 3 n cap (nds P T D)) :
    Calls Try.prog 25 #[.slice (some ⟨b, 0, none⟩) n cap] w fun e w' => ∃ gf lb, e = .returned (.func (.func gf) #[] lb) ∧ (∀ args w, (callFunc gf args).run Try.prog w = .ok (.enter gf args) w) ∧ (∀ (W : World) (S : Nat → Prop), Below w'.heap.size w' W → (∀ b, S b → w'.heap.size ≤ b ∧ b < W.heap.size) → Hands2 Try.prog gf lb (ptN n P T D) (ptG n P) (KpC S) W) ∧ Below w.heap.size w w' := by
  by_cases hk : okT n P T D
  · have e : ptN n P T D = (lvL n P).length := if_pos hk
    rw [e]
    refine (paths_ok h hk).mono ?_
    rintro e w' ⟨B, u, c, rfl, hB, _, ho, f⟩
    refine ⟨_, _, rfl, enters_of Try.func37 (by kernel_rfl) rfl, fun W S hW hS => ?_, f⟩
    have hr := own_rda ho
    obtain ⟨g, rfl, _, hg, hc, _⟩ := ho.at_ hk.1
    refine ptf_hands (ao := some ⟨g, 0, none⟩) (cap := c) hk (fun b hb => (hS b hb).2) (fun V hV => ⟨?_, hr.le, hr.top, fun _ => ⟨g, 0, rfl, fun j hj => ?_⟩⟩)
    · have hBl := (Array.getElem?_eq_some_iff.1 hB).1
      refine hV.cell (fun hs => by have := (hS _ hs).1; omega) (fresh_cell hW ?_)
      unfold World.cell?
      rw [hB]
      rfl
    · rw [Nat.zero_add]
      exact hV.cell (fun hs => by have := (hS _ hs).1; omega) (fresh_cell hW (hc j hj))
  · have e : ptN n P T D = 0 := if_neg hk
    rw [e]
    refine (paths_bad h hk).mono ?_
    rintro e w' ⟨rfl, f⟩
    exact ⟨_, _, rfl, enters_of Try.func35 (by kernel_rfl) rfl, fun W S hW hS => pte_hands, f⟩
/-- the frame at the head of the outer loop -/
def FrameP (ao : Option Addr) (n cap : Nat) (most : Int) (w : World) (bu uc C : Nat) (gf : Nat) (lb : Array Value) (R : Nat) (ds : List Deferred) (a : Act) : Prop := ∃ u9 u10 u11 u12 u13 u14 u15 u16 u17 u18 u19 u20 u21 u22 u23 u24 u25 u26 u27 u28 u29 u30 u31 u32 u33 u34 u35 u36 u37 u38 u39 u40 u41 u42 u43 u44 u45 u46 u47 u48 u49 u50 u51 u52 u53 u54 u55 u56 u57 u58 u59 u60 u61 u62 u63 : Value,
  a = { tmps := #[.slice ao n cap, .int .i64 most, undef, .pointer (some ⟨w.heap.size, 0, none⟩), .pointer (some ⟨w.heap.size + 1, 0, none⟩), .slice (some ⟨bu, 0, none⟩) n uc, .pointer (some ⟨C, 0, none⟩), .func (.func gf) #[] lb, .pointer (some ⟨R, 0, none⟩), u9, u10, u11, u12, u13, u14, u15, u16, u17, u18, u19, u20, u21, u22, u23, u24, u25, u26, u27, u28, u29, u30, u31, u32, u33, u34, u35, u36, u37, u38, u39, u40, u41, u42, u43, u44, u45, u46, u47, u48, u49, u50, u51, u52, u53, u54, u55, u56, u57, u58, u59, u60, u61, u62, u63], defers := ds }
set_option maxRecDepth 100000 in
set_option maxHeartbeats 8000000 in
theorem paths_law {w : World} {ao : Option Addr} {n cap : Nat} {P T D : Nat → Int} (h : RdA w ao 3 n cap (nds P T D)) (hn : n * 24 ≤ 140737488351232) (most : Int) :
    Calls Try.prog 7 #[.slice ao n cap, .int .i64 most] w fun e w' => e = .returned (.bool true) ∧ Below w.heap.size w w' := by
  refine (callsIn_wide (n := 3)).1 ?_
  refine callsIn_of_wp_marks Try.func7 rfl trivial ?_ rfl
  simp only [Try.ntmps7, List.size_toArray, List.length_cons, List.length_nil, Nat.reduceAdd, Nat.reduceSub, Array.replicate_succ, Array.replicate_zero, List.push_toArray, List.append_toArray, List.nil_append, List.cons_append]
  have hf0 := fresh_alloc w (.cells #[.int .i64 most] 3)
  have hf1 := fresh_trans hf0 (fresh_alloc _ (.cells #[.bool false] 4))
  have q0 := (row1_new w 3 (.int .i64 most)).alloc (.cells #[.bool false] 4)
  have q1 := row1_new (w.alloc (.cells #[.int .i64 most] 3)) 4 (.bool false)
  have hS3 : ((w.alloc (.cells #[.int .i64 most] 3)).alloc (.cells #[.bool false] 4)).heap.size = w.heap.size + 2 := by simp
  simp only [World.size_alloc] at q1
  gi_wp2_with fail
  generalize ((w.alloc (.cells #[.int .i64 most] 3)).alloc (.cells #[.bool false] 4)) = w1 at *
  refine ⟨trivial, ?_⟩
  gi_at_call 14
  refine (callsIn_wide.2 (spareN_any (h.fresh hf1) hn)).mono ?_
  rintro e w2 ⟨u, uc, rfl, hM⟩
  obtain ⟨bu, rfl⟩ := hM.at_
  have hF2 := fresh_trans hf1 hM.low
  have p0 := q0.of_block (hM.low.block _ q0.lt)
  have p1 := q1.of_block (hM.low.block _ q1.lt)
  have HA2 := hM.all
  have HD2 := hM.rd
  clear q0 q1 hf0 hf1 hM
  gi_wp2_with fail
  refine ⟨trivial, ?_⟩
  gi_at_call 24
  refine (callsIn_wide.2 (rpaths_any (h.fresh hF2))).mono ?_
  rintro e w3 ⟨a3, c3, U, K, rfl, hY, f3⟩
  obtain ⟨WS, HWS⟩ : ∃ x, Hid (x = ptW n P T D) := ⟨_, rfl⟩
  rw [← HWS.out] at hY ⊢
  have fA := fresh_alloc w3 (.cells #[.slice a3 WS.length c3] 42)
  have f4 := fresh_trans f3 fA
  have r0 := p0.of_block (f4.block _ p0.lt)
  have r1 := p1.of_block (f4.block _ p1.lt)
  have rC := row1_new w3 42 (.slice a3 WS.length c3)
  have hY4 := hY.kept fA
  have hF4 := fresh_trans hF2 f4
  have HA4 := HA2.fresh f4
  have HD4 := HD2.fresh f4
  clear p0 p1 hY f3 fA HA2 HD2
  gi_wp2_with fail
  generalize w3.alloc (.cells #[.slice a3 WS.length c3] 42) = w4 at *
  generalize w3.heap.size = C at *
  refine ⟨trivial, ?_⟩
  gi_at_call 25
  refine (callsIn_wide.2 (paths_any HD4)).mono ?_
  rintro e w5 ⟨gf, lb, rfl, heg, hit, f5⟩
  have HIT := hidd hit
  have HEG := hidd heg
  obtain ⟨N, HN⟩ : ∃ x, Hid (x = ptN n P T D) := ⟨_, rfl⟩
  rw [← HN.out] at HIT
  have HWN : WS.length = N := by rw [HWS.out, HN.out]; exact ptW_len n P T D
  have s0 := r0.of_block (f5.block _ r0.lt)
  have s1 := r1.of_block (f5.block _ r1.lt)
  have sC := rC.of_block (f5.block _ rC.lt)
  have HY5 := hidd (hY4.kept f5)
  have hF5 := fresh_trans hF4 f5
  have HA5 := hidd (HA4.fresh f5)
  have hz5 : w.heap.size + 2 ≤ w5.heap.size := by have := s1.lt; omega
  have hN32 : N ≤ 32 := by
    rw [HN.out]
    unfold ptN
    split
    · rename_i q
      have := lwL_len n P n
      rw [lwL_all] at this
      have := q.2.1
      omega
    · omega
  clear hit heg r0 r1 rC hY4 hF4 HA4 HD4 f4 f5 hF2
  rw [HWN] at sC
  have hq := eqNilF (.func gf) #[] lb
  have f6 := fresh_alloc w5 (.cells #[.int .i64 0] 3)
  have R6 := row1_new w5 3 (.int .i64 0)
  gi_wp2_with fail
  clear hq
  refine loop_inv (fun m a W => ∃ (j R : Nat) (Ds : List Nat), m + j = 3 ∧ FrameP ao n cap most w bu uc C gf lb R (Ds.map mark) a ∧ Ds.Nodup ∧ (∀ D ∈ Ds, w5.heap.size ≤ D ∧ W.heap[D]? = some (.deferred (some []))) ∧ w5.heap.size ≤ R ∧ W.rowIs R 3 1 (fun _ => .int .i64 j) ∧ Below w5.heap.size w5 W) 3 ?start ?round
  case start => exact ⟨0, w5.heap.size, [], rfl, ⟨_, _, _, _, _, _, _, _, _, _, _, _, _, _, _, _, _, _, _, _, _, _, _, _, _, _, _, _, _, _, _, _, _, _, _, _, _, _, _, _, _, _, _, _, _, _, _, _, _, _, _, _, _, _, _, rfl⟩, List.nodup_nil, (fun D hD => nomatch hD), Nat.le_refl _, R6, f6⟩
  case round =>
    clear f6 R6
    rintro m a W ⟨j, R, Ds, hm, ⟨u9, u10, u11, u12, u13, u14, u15, u16, u17, u18, u19, u20, u21, u22, u23, u24, u25, u26, u27, u28, u29, u30, u31, u32, u33, u34, u35, u36, u37, u38, u39, u40, u41, u42, u43, u44, u45, u46, u47, u48, u49, u50, u51, u52, u53, u54, u55, u56, u57, u58, u59, u60, u61, u62, u63, rfl⟩, hnd, hDs, hR, rR, hlow⟩
    obtain ⟨ds, EDS⟩ : ∃ ds, Hid (ds = Ds.map mark) := ⟨_, rfl⟩
    rw [← EDS.out]
    have HDS := hidd hDs
    have HND := hidd hnd
    clear hDs hnd
    obtain ⟨cR, fR⟩ := row1 rR
    by_cases hj : j < 3
    · have fN := fresh_alloc W (.cells #[.int .i64 0] 3)
      have rN := row1_new W 3 (.int .i64 0)
      have tj : decide ((j : Int) < 3) = true := by simp; omega
      gi_wp2_with fail
      have hWs : (W.alloc (.cells #[.int .i64 0] 3)).heap.size = W.heap.size + 1 := by simp
      have hW5 := hlow.size
      have hlowW := fresh_trans hlow fN
      have hRl := rR.lt
      refine range_hands2 (gf := gf) (lb := lb) rfl HEG.out (HIT.out _ (fun b => b = W.heap.size) hlowW (fun b e => by rw [e, hWs]; omega)) KpC.trans (fun V l o o' _ hV hc => KpC.put V l o o' hV hc)
        (fun k args V h => by obtain ⟨b, rfl, _⟩ := h; rfl) (fun k args V l o o' hl hV hc h => by obtain ⟨b, e, hP⟩ := h; exact ⟨b, e, row_put hV hc hP⟩)
        (fun k V => Below W.heap.size W V ∧ V.rowIs W.heap.size 3 1 (fun _ => .int .i64 k))
        (fun c k V => c = .exit 2 ∧ (k : Int) = most ∧ j = 1 ∧ Below W.heap.size W V ∧ V.rowIs W.heap.size 3 1 (fun _ => .int .i64 k))
        ?bears ?puts ?putsx ⟨fN, rN⟩
        (fun args => { tmps := #[.slice ao n cap, .int .i64 most, undef, .pointer (some ⟨w.heap.size, 0, none⟩), .pointer (some ⟨w.heap.size + 1, 0, none⟩), .slice (some ⟨bu, 0, none⟩) n uc, .pointer (some ⟨C, 0, none⟩), .func (.func gf) #[] lb, .pointer (some ⟨R, 0, none⟩), .pointer (some ⟨W.heap.size, 0, none⟩), args.getD 0 undef, u11, u12, u13, u14, u15, u16, u17, u18, .int .i64 j, .bool true, u21, u22, .func (.func gf) #[] lb, args.getD 0 undef, u25, u26, u27, u28, u29, u30, u31, u32, u33, u34, u35, u36, u37, u38, u39, u40, u41, u42, u43, u44, u45, u46, u47, u48, u49, u50, u51, u52, u53, u54, u55, u56, u57, u58, u59, u60, u61, u62, u63], defers := [] }) ?assign ?body ?done ?stop
      case bears =>
        rintro k V V' ⟨h1, h2⟩ f
        exact ⟨fresh_trans h1 f, h2.of_block (f.block _ h2.lt)⟩
      case puts =>
        rintro k V l o o' hl hV hc ⟨h1, h2⟩
        exact ⟨below_put hV (by rw [hWs] at hl; omega) h1, row_put hV hc h2⟩
      case putsx =>
        rintro c k V l o o' hl hV hc ⟨e1, e2, e3, h1, h2⟩
        exact ⟨e1, e2, e3, below_put hV (by rw [hWs] at hl; omega) h1, row_put hV hc h2⟩
      case assign =>
        rintro l k args V K ⟨b, rfl, hP⟩ hK
        gi_wp2
        exact hK
      case body =>
        rintro l k args V hk ⟨h1, h2⟩ ⟨b, rfl, hP⟩
        have hWk : yAt WS k = wy P ((lvL n P).getD k 0) := by rw [HWS.out]; exact ptW_at (by rw [← HN.out]; exact hk)
        rw [← hWk] at hP ⊢
        simp only [show ∀ u : Value, (#[u] : Array Value).getD 0 undef = u from fun _ => rfl]
        have hV5 := fresh_trans hlow h1
        have hVF := fresh_trans hF5 hV5
        obtain ⟨y1, _⟩ := row1 (sC.of_block (hV5.block _ sC.lt))
        obtain ⟨cN, fNn⟩ := row1 h2
        have hYV := HY5.out.kept hV5
        obtain ⟨g3, rfl, _, _, hc3, _⟩ := hYV.own.at_ (by omega)
        have y2 := hc3 k (by omega)
        unfold yC at y2
        have hWy : (yAt WS k).length ≤ maxLen := Nat.le_trans (own_rda (hYV.at_ k (by omega))).le (own_rda (hYV.at_ k (by omega))).top
        have HEQ := hidd (eqInts_any (f := fun j => (((yAt WS k).getD j 0 : Nat) : Int)) (g := fun j => (((yAt WS k).getD j 0 : Nat) : Int)) (rowIs_rd hP hWy) (own_rda (hYV.at_ k (by omega))))
        have hk2 : (k : Int) < (N : Int) := by omega
        have t0 : decide ((N : Int) ≤ (k : Int)) = false := by simp; omega
        generalize (yAt WS k).length = mm at *
        clear hc3
        gi_wp2_with fail
        refine ⟨trivial, ?_⟩
        gi_at_call 26
        refine (CallsIn.inRound l (callsIn_wide.2 HEQ.out)).mono ?_
        rintro e V3 ⟨⟨r, rfl, hr⟩, hf3⟩
        obtain rfl : r = true := hr.2 (by simp)
        have h13 := fresh_trans h1 hf3
        have h23 := h2.of_block (hf3.block _ h2.lt)
        have hV35 := fresh_trans hlow h13
        obtain ⟨cN3, fN3⟩ := row1 h23
        obtain ⟨cM, _⟩ := row1 (s0.of_block (hV35.block _ s0.lt))
        obtain ⟨cJ, _⟩ := row1 (rR.of_block (h13.block _ rR.lt))
        have KO := hidd ((KeepsOthers.of_below hf3).trans (KeepsOthers.setCell V3 ⟨W.heap.size, 0, none⟩ (.int .i64 ((k : Int) + 1))))
        have KP : Hid (KpC (fun b => b = W.heap.size) V (V3.setCell ⟨W.heap.size, 0, none⟩ (.int .i64 ((k : Int) + 1)))) := (KpC.of_below hf3).trans ⟨by simp, fun b o hb h1 _ => (Below.heap_setCell _ _ _ _ hb).trans h1⟩
        have HL := hidd (h13.setCell (p := ⟨W.heap.size, 0, none⟩) (Nat.le_refl _) (.int .i64 ((k : Int) + 1)))
        have HR2 := hidd (show (V3.setCell ⟨W.heap.size, 0, none⟩ (.int .i64 ((k : Int) + 1))).rowIs W.heap.size 3 1 (fun _ => .int .i64 ((k + 1 : Nat) : Int)) by
          have := row1_set h23 (.int .i64 ((k : Int) + 1))
          simpa using this)
        have wk : IntKind.i64.wrap ((k : Int) + 1) = (k : Int) + 1 := Go.IntWalk.i64_in _ (by omega)
        clear HEQ cN fNn y1 y2 hf3 hP h1 h2 hr
        by_cases hodd : j = 1
        · have t1 : ((j : Int) == 1) = true := by simp; omega
          by_cases hmost : (k : Int) + 1 = most
          · have t2 : ((k : Int) + 1 == most) = true := by simpa using hmost
            have HMo := hidd hmost
            have HOD := hidd hodd
            clear hmost hodd
            gi_wp2
            exact ⟨KO.out.from _, rfl, by rw [← HMo.out]; rfl, HOD.out, HL.out, HR2.out⟩
          · have t2 : ((k : Int) + 1 == most) = false := by simpa using hmost
            have HOD := hidd hodd
            clear hodd
            gi_wp2
            exact ⟨KO.out.from _, KP.out, HL.out, HR2.out⟩
        · have t1 : ((j : Int) == 1) = false := by simp; omega
          gi_wp2
          exact ⟨KO.out.from _, KP.out, HL.out, HR2.out⟩
      case done =>
        rintro D V hD ⟨h1, h2⟩ hK
        rw [hWs] at hD
        obtain ⟨cN, fNn⟩ := row1 h2
        obtain ⟨cJ, fJ⟩ := row1 (rR.of_block (h1.block _ rR.lt))
        obtain ⟨y1, _⟩ := row1 (sC.of_block ((fresh_trans hlow h1).block _ sC.lt))
        have tN : ((N : Int) != (N : Int)) = false := by simp
        · gi_wp2
          have hD2 := (Array.getElem?_eq_some_iff.1 hK).1
          have fV := fresh_alloc V (.cells #[.int .i64 ((j : Int) + 1)] 3)
          have e := EDS.out
          subst e
          refine ⟨m - 1, by omega, j + 1, V.heap.size, D :: Ds, by omega, ⟨_, _, _, _, _, _, _, _, _, _, _, _, _, _, _, _, _, _, _, _, _, _, _, _, _, _, _, _, _, _, _, _, _, _, _, _, _, _, _, _, _, _, _, _, _, _, _, _, _, _, _, _, _, _, _, rfl⟩, List.nodup_cons.2 ⟨fun hD3 => ?_, HND.out⟩, fun E hE => ?_, Nat.le_trans hW5 h1.size, ?_, fresh_trans (fresh_trans hlow h1) fV⟩
          · have := (Array.getElem?_eq_some_iff.1 (HDS.out D hD3).2).1
            omega
          · rcases List.mem_cons.1 hE with e | e
            · rw [e]
              exact ⟨by omega, (fV.block D hD2).trans hK⟩
            · obtain ⟨h3, h4⟩ := HDS.out E e
              have h5 := (Array.getElem?_eq_some_iff.1 h4).1
              exact ⟨h3, (fV.block E (Nat.lt_of_lt_of_le h5 h1.size)).trans ((h1.block E h5).trans h4)⟩
          · simpa using row1_new V 3 (.int .i64 ((j : Int) + 1))

      case stop =>
        rintro D c k V hD hk ⟨rfl, rfl, hodd, h1, h2⟩ hK
        rw [hWs] at hD
        obtain ⟨cN, fNn⟩ := row1 h2
        obtain ⟨cJ, fJ⟩ := row1 (rR.of_block (h1.block _ rR.lt))
        obtain ⟨y1, _⟩ := row1 (sC.of_block ((fresh_trans hlow h1).block _ sC.lt))
        obtain ⟨cM, _⟩ := row1 (s0.of_block ((fresh_trans hlow h1).block _ s0.lt))
        have tk : ((k : Int) != (k : Int)) = false := by simp
        have t0 : ((j : Int) != 1) = false := by simp; omega
        have HOD := hidd hodd
        clear hodd
        by_cases hkN : k = N
        · have tN : ((k : Int) != (N : Int)) = false := by simp [hkN]
          gi_wp2
          have hD2 := (Array.getElem?_eq_some_iff.1 hK).1
          have fV := fresh_alloc V (.cells #[.int .i64 ((j : Int) + 1)] 3)
          have e := EDS.out
          subst e
          refine ⟨m - 1, by omega, j + 1, V.heap.size, D :: Ds, by omega, ⟨_, _, _, _, _, _, _, _, _, _, _, _, _, _, _, _, _, _, _, _, _, _, _, _, _, _, _, _, _, _, _, _, _, _, _, _, _, _, _, _, _, _, _, _, _, _, _, _, _, _, _, _, _, _, _, rfl⟩, List.nodup_cons.2 ⟨fun hD3 => ?_, HND.out⟩, fun E hE => ?_, Nat.le_trans hW5 h1.size, ?_, fresh_trans (fresh_trans hlow h1) fV⟩
          · have := (Array.getElem?_eq_some_iff.1 (HDS.out D hD3).2).1
            omega
          · rcases List.mem_cons.1 hE with e | e
            · rw [e]
              exact ⟨by omega, (fV.block D hD2).trans hK⟩
            · obtain ⟨h3, h4⟩ := HDS.out E e
              have h5 := (Array.getElem?_eq_some_iff.1 h4).1
              exact ⟨h3, (fV.block E (Nat.lt_of_lt_of_le h5 h1.size)).trans ((h1.block E h5).trans h4)⟩
          · simpa using row1_new V 3 (.int .i64 ((j : Int) + 1))

        · have tN : ((k : Int) != (N : Int)) = true := by simp; omega
          gi_wp2
          have hD2 := (Array.getElem?_eq_some_iff.1 hK).1
          have fV := fresh_alloc V (.cells #[.int .i64 ((j : Int) + 1)] 3)
          have e := EDS.out
          subst e
          refine ⟨m - 1, by omega, j + 1, V.heap.size, D :: Ds, by omega, ⟨_, _, _, _, _, _, _, _, _, _, _, _, _, _, _, _, _, _, _, _, _, _, _, _, _, _, _, _, _, _, _, _, _, _, _, _, _, _, _, _, _, _, _, _, _, _, _, _, _, _, _, _, _, _, _, rfl⟩, List.nodup_cons.2 ⟨fun hD3 => ?_, HND.out⟩, fun E hE => ?_, Nat.le_trans hW5 h1.size, ?_, fresh_trans (fresh_trans hlow h1) fV⟩
          · have := (Array.getElem?_eq_some_iff.1 (HDS.out D hD3).2).1
            omega
          · rcases List.mem_cons.1 hE with e | e
            · rw [e]
              exact ⟨by omega, (fV.block D hD2).trans hK⟩
            · obtain ⟨h3, h4⟩ := HDS.out E e
              have h5 := (Array.getElem?_eq_some_iff.1 h4).1
              exact ⟨h3, (fV.block E (Nat.lt_of_lt_of_le h5 h1.size)).trans ((h1.block E h5).trans h4)⟩
          · simpa using row1_new V 3 (.int .i64 ((j : Int) + 1))

    · have tj : decide ((j : Int) < 3) = false := by simp; omega
      gi_wp2_with fail
      refine ⟨trivial, ?_⟩
      gi_at_call 17
      have hFW := fresh_trans hF5 hlow
      refine (callsIn_wide.2 (staysN_any (HA5.out.fresh hlow) (h.fresh hFW))).mono ?_
      rintro e w9 ⟨rfl, hf9⟩
      have g2 := s1.of_block ((fresh_trans hlow hf9).block _ s1.lt)
      have hg2l := s1.lt
      obtain ⟨k2, f2⟩ := row1 g2
      have H2 := hidd (row1_set g2 (.bool true))
      have HL := hidd ((fresh_trans hFW hf9).setCell (p := ⟨w.heap.size + 1, 0, none⟩) (by dsimp only; omega) (.bool true))
      have HM : Hid (∀ D ∈ Ds, w5.heap.size ≤ D ∧ (w9.setCell ⟨w.heap.size + 1, 0, none⟩ (.bool true)).heap[D]? = some (.deferred (some []))) := fun D hD => by
        obtain ⟨h1, h2⟩ := HDS.out D hD
        refine ⟨h1, ?_⟩
        rw [Below.heap_setCell _ _ _ _ (by dsimp only; omega), hf9.block D (Array.getElem?_eq_some_iff.1 h2).1]
        exact h2
      gi_wp2
      rw [EDS.out]
      refine leaves_marks (B := w5.heap.size) (fun V => V.rowIs (w.heap.size + 1) 4 1 (fun _ => .bool true) ∧ Below w.heap.size w V) (fun V D hD hV ⟨h1, h2⟩ => ⟨row_put hV rfl h1, below_put hV (by omega) h2⟩) (fun V ⟨h1, h2⟩ => ?_) Ds _ HND.out HM.out ⟨H2.out, HL.out⟩
      exact ⟨.bool true, results_bool Try.results7 _ _ (w.heap.size + 1) true rfl (row1 h1).1, rfl, h2⟩
end Go.Proofs.Ytakekdbclmgeoaa
