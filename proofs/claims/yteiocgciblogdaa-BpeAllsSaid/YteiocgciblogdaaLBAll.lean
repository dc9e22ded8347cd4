import Derived.Test.YteiocgciblogdaaVAl2
import Derived.Test.YteiocgciblogdaaLBByt
namespace Go.Proofs.Yteiocgciblogdaa
open Go.RowKit
/-! BpeAlls. -/
attribute [local go_sem] Oper.semAt_some
/-- the frame at the head of the outer loop -/
def FrameA (v m : Value) (g0 C R : Nat) (sz f : Value) (ds : List Deferred) (a : Act) : Prop := ∃ u9 u10 u11 u12 u13 u14 u15 u16 u17 u18 u19 u20 u21 u22 u23 u24 u25 u26 u27 u28 u29 u30 u31 u32 u33 u34 u35 u36 u37 u38 u39 u40 u41 u42 u43 u44 u45 u46 u47 u48 u49 u50 u51 u52 u53 u54 u55 u56 u57 u58 u59 u60 u61 u62 u63 u64 u65 u66 u67 u68 u69 u70 u71 u72 u73 u74 : Value,
  a = { tmps := #[v, m, .pointer (some ⟨g0, 0, none⟩), .pointer (some ⟨g0 + 1, 0, none⟩), .pointer (some ⟨g0 + 1 + 1, 0, none⟩), .pointer (some ⟨C, 0, none⟩), sz, f, .pointer (some ⟨R, 0, none⟩), u9, u10, u11, u12, u13, u14, u15, u16, u17, u18, u19, u20, u21, u22, u23, u24, u25, u26, u27, u28, u29, u30, u31, u32, u33, u34, u35, u36, u37, u38, u39, u40, u41, u42, u43, u44, u45, u46, u47, u48, u49, u50, u51, u52, u53, u54, u55, u56, u57, u58, u59, u60, u61, u62, u63, u64, u65, u66, u67, u68, u69, u70, u71, u72, u73, u74], defers := ds }
set_option maxRecDepth 100000 in
set_option maxHeartbeats 8000000 in
theorem alls_walk {w : World} {d : VD} {bo po : Option Addr} {cb cp : Nat} (hb : RdA w bo 1 d.nb cb (fun i => .int .u8 (d.B i))) (hp : RdA w po 2 d.np cp (tcs d.P d.Q)) (n1 : d.nb ≤ 140737488351232) (n2 : d.np ≤ 8796093021952) (most : Int) :
    Calls Try.prog 5 #[.agg #[.slice bo d.nb cb, .slice po d.np cp], .int .i64 most] w fun e w' => e = .returned (.bool true) ∧ Below w.heap.size w w' := by
  obtain ⟨N, HN⟩ : ∃ N : Nat, Hid ((d.Right ∧ N = d.nb + 1 + d.np) ∨ (¬ d.Right ∧ N = 0)) := by
    by_cases h : d.Right
    · exact ⟨_, .inl ⟨h, rfl⟩⟩
    · exact ⟨_, .inr ⟨h, rfl⟩⟩
  have HZ : Hid (d.sized (N : Int)) := by
    rcases HN.out with ⟨h, e⟩ | ⟨h, e⟩
    · exact .inl ⟨h, by rw [e]⟩
    · exact .inr ⟨h, by rw [e]; rfl⟩
  have hN64 : N ≤ 64 := by
    rcases HN.out with ⟨h, e⟩ | ⟨h, e⟩
    · obtain ⟨z1, z2, z3⟩ := h.cnt
      omega
    · omega
  have HG : Hid (∀ k, k < N → d.decOut (fun _ => (k : Int)) 1 0 (d.pc k)) := fun k hk => by
    rcases HN.out with ⟨h, e⟩ | ⟨h, e⟩
    · refine .inr (.inr ⟨h, fun i _ => ⟨by show (0 : Int) ≤ (k : Int); omega, by show (k : Int) < _; omega⟩, rfl, ?_⟩)
      simp [VD.dec]
    · omega
  refine (callsIn_wide (n := 3)).1 ?_
  refine callsIn_of_wp_marks Try.func5 rfl trivial ?_ rfl
  simp only [Try.ntmps5, List.size_toArray, List.length_cons, List.length_nil, Nat.reduceAdd, Nat.reduceSub, Array.replicate_succ, Array.replicate_zero, List.push_toArray, List.append_toArray, List.nil_append, List.cons_append]
  have hf0 := fresh_alloc w (.cells #[.slice bo d.nb cb, .slice po d.np cp] 25)
  have hf1 := fresh_trans hf0 (fresh_alloc _ (.cells #[.int .i64 most] 3))
  have hf2 := fresh_trans hf1 (fresh_alloc _ (.cells #[.bool false] 4))
  have q0 := ((row2_new w 25 (.slice bo d.nb cb) (.slice po d.np cp)).alloc (.cells #[.int .i64 most] 3)).alloc (.cells #[.bool false] 4)
  have q1 := (row1_new (w.alloc (.cells #[.slice bo d.nb cb, .slice po d.np cp] 25)) 3 (.int .i64 most)).alloc (.cells #[.bool false] 4)
  have q2 := row1_new ((w.alloc (.cells #[.slice bo d.nb cb, .slice po d.np cp] 25)).alloc (.cells #[.int .i64 most] 3)) 4 (.bool false)
  have hS3 : (((w.alloc (.cells #[.slice bo d.nb cb, .slice po d.np cp] 25)).alloc (.cells #[.int .i64 most] 3)).alloc (.cells #[.bool false] 4)).heap.size = w.heap.size + 3 := by simp
  simp only [World.size_alloc] at q1 q2
  gi_wp2_with fail
  generalize (((w.alloc (.cells #[.slice bo d.nb cb, .slice po d.np cp] 25)).alloc (.cells #[.int .i64 most] 3)).alloc (.cells #[.bool false] 4)) = w1 at *
  refine ⟨trivial, ?_⟩
  gi_at_call 9
  refine (callsIn_wide.2 (twin_any (hb.fresh hf2) (hp.fresh hf2) n1 n2)).mono ?_
  rintro e w2 ⟨gb, kb, gp, kp, rfl, hT⟩
  have hF2 := fresh_trans hf2 hT.low
  have fA := fresh_alloc w2 (.cells #[.slice (some ⟨gb, 0, none⟩) d.nb kb, .slice (some ⟨gp, 0, none⟩) d.np kp] 25)
  have c1 := row2_new w2 25 (.slice (some ⟨gb, 0, none⟩) d.nb kb) (.slice (some ⟨gp, 0, none⟩) d.np kp)
  have f3 := fresh_trans hT.low fA
  have p0 := q0.of_block (f3.block _ q0.lt)
  have p1 := q1.of_block (f3.block _ q1.lt)
  have p2 := q2.of_block (f3.block _ q2.lt)
  have hT3 := hT.kept fA
  have hF3 := fresh_trans hF2 fA
  obtain ⟨y0, y1⟩ := row2 p0
  gi_wp2_with fail
  refine ⟨trivial, ?_⟩
  gi_at_call 13
  refine (callsIn_wide.2 (rsize_any (hb.fresh hF3) (hp.fresh hF3) (by omega) (N : Int) HZ.out)).mono ?_
  generalize w2.alloc (.cells #[.slice (some ⟨gb, 0, none⟩) d.nb kb, .slice (some ⟨gp, 0, none⟩) d.np kp] 25) = w3 at *
  generalize w2.heap.size = C at *
  rintro e w4 ⟨rfl, hf4⟩
  have r0 := p0.of_block (hf4.block _ p0.lt)
  have r1 := p1.of_block (hf4.block _ p1.lt)
  have r2 := p2.of_block (hf4.block _ p2.lt)
  have c4 := c1.of_block (hf4.block _ c1.lt)
  have hT4 := hT3.kept hf4
  have hF4 := fresh_trans hF3 hf4
  clear p0 p1 p2 q0 q1 q2 c1 hT3 hF3 hf4 f3 fA hF2 hT y0 y1 hf0 hf1 hf2
  obtain ⟨y0, y1⟩ := row2 c4
  gi_wp2_with fail
  refine ⟨trivial, ?_⟩
  gi_at_call 18
  refine (callsIn_wide.2 (all_any hT4.rb hT4.rp)).mono ?_
  rintro e w5 ⟨Ba, rfl, hAll, hBa, hf5⟩
  obtain ⟨base, hit⟩ : ∃ base, Hands Try.prog 35 #[.pointer (some ⟨Ba, 0, none⟩)] N (handed d w5.heap.size) (KpS base w5.heap.size) w5 := by
    rcases hAll with ⟨hR, v, A, hT, hcell⟩ | ⟨hR, hcell⟩
    · rcases HN.out with ⟨h, e⟩ | ⟨h, e⟩
      · subst e
        exact ⟨_, all_hands (by omega) hN64 hR.len_all hT rfl hcell⟩
      · exact absurd hR h
    · rcases HN.out with ⟨h, e⟩ | ⟨h, e⟩
      · exact absurd h hR
      · subst e
        exact ⟨0, all_hands_none _ hcell⟩
  have HIT := hidd hit
  have s0 := r0.of_block (hf5.block _ r0.lt)
  have s1 := r1.of_block (hf5.block _ r1.lt)
  have s2 := r2.of_block (hf5.block _ r2.lt)
  have c5 := c4.of_block (hf5.block _ c4.lt)
  have hT5 := hT4.kept hf5
  have hF5 := fresh_trans hF4 hf5
  have hz5 : w.heap.size + 3 ≤ w5.heap.size := by have := s2.lt; omega
  clear hit hAll hBa r0 r1 r2 c4 hT4 hF4 hf5 y0 y1
  have hq := eqNilF (.func 35) #[] #[.pointer (some ⟨Ba, 0, none⟩)]
  have f6 := fresh_alloc w5 (.cells #[.int .i64 0] 3)
  have R6 := row1_new w5 3 (.int .i64 0)
  gi_wp2_with fail
  clear hq
  refine loop_inv (fun m a W => ∃ (j R : Nat) (Ds : List Nat), m + j = 4 ∧ FrameA (.agg #[.slice bo d.nb cb, .slice po d.np cp]) (.int .i64 most) w.heap.size C R (.int .i64 N) (.func (.func 35) #[] #[.pointer (some ⟨Ba, 0, none⟩)]) (Ds.map mark) a ∧ Ds.Nodup ∧ (∀ D ∈ Ds, w5.heap.size ≤ D ∧ W.heap[D]? = some (.deferred (some []))) ∧ w5.heap.size ≤ R ∧ W.rowIs R 3 1 (fun _ => .int .i64 j) ∧ Below w5.heap.size w5 W) 4 ?start ?round
  case start => exact ⟨0, w5.heap.size, [], rfl, ⟨_, _, _, _, _, _, _, _, _, _, _, _, _, _, _, _, _, _, _, _, _, _, _, _, _, _, _, _, _, _, _, _, _, _, _, _, _, _, _, _, _, _, _, _, _, _, _, _, _, _, _, _, _, _, _, _, _, _, _, _, _, _, _, _, _, _, rfl⟩, List.nodup_nil, (fun D hD => nomatch hD), Nat.le_refl _, R6, f6⟩
  case round =>
    clear f6 R6
    rintro m a W ⟨j, R, Ds, hm, ⟨u9, u10, u11, u12, u13, u14, u15, u16, u17, u18, u19, u20, u21, u22, u23, u24, u25, u26, u27, u28, u29, u30, u31, u32, u33, u34, u35, u36, u37, u38, u39, u40, u41, u42, u43, u44, u45, u46, u47, u48, u49, u50, u51, u52, u53, u54, u55, u56, u57, u58, u59, u60, u61, u62, u63, u64, u65, u66, u67, u68, u69, u70, u71, u72, u73, u74, rfl⟩, hnd, hDs, hR, rR, hlow⟩
    obtain ⟨ds, EDS⟩ : ∃ ds, Hid (ds = Ds.map mark) := ⟨_, rfl⟩
    rw [← EDS.out]
    have HDS := hidd hDs
    have HND := hidd hnd
    clear hDs hnd
    obtain ⟨cR, fR⟩ := row1 rR
    by_cases hj : j < 4
    · have fN := fresh_alloc W (.cells #[.int .i64 0] 3)
      have rN := row1_new W 3 (.int .i64 0)
      have tj : decide ((j : Int) < 4) = true := by simp; omega
      gi_wp2_with fail
      have hWs : (W.alloc (.cells #[.int .i64 0] 3)).heap.size = W.heap.size + 1 := by simp
      have hW5 := hlow.size
      have hlowW := fresh_trans hlow fN
      have hRl := rR.lt
      refine range_hands (gf := 35) (lb := #[.pointer (some ⟨Ba, 0, none⟩)]) rfl (enters_of Try.func35 (by kernel_rfl) rfl) (HIT.out.later hlowW) KpS.trans (fun V l o o' hl hV hc => ⟨by simp, fun b h1 h2 => put_other _ (by rw [hWs] at hl; omega)⟩)
        (fun k args V h => by obtain ⟨u, rfl, _⟩ := h; rfl) (fun k args V l o o' hl hV hc h => by obtain ⟨u, e, hP⟩ := h; exact ⟨u, e, piece_put hV hc hP⟩)
        (fun k V => Below W.heap.size W V ∧ V.rowIs W.heap.size 3 1 (fun _ => .int .i64 k))
        (fun id k V => id = 2 ∧ (k : Int) = most ∧ j % 2 = 1 ∧ Below W.heap.size W V ∧ V.rowIs W.heap.size 3 1 (fun _ => .int .i64 k))
        ?bears ?puts ?putsx ⟨fN, rN⟩
        (fun args => { tmps := #[.agg #[.slice bo d.nb cb, .slice po d.np cp], .int .i64 most, .pointer (some ⟨w.heap.size, 0, none⟩), .pointer (some ⟨w.heap.size + 1, 0, none⟩), .pointer (some ⟨w.heap.size + 1 + 1, 0, none⟩), .pointer (some ⟨C, 0, none⟩), .int .i64 N, .func (.func 35) #[] #[.pointer (some ⟨Ba, 0, none⟩)], .pointer (some ⟨R, 0, none⟩), .pointer (some ⟨W.heap.size, 0, none⟩), args.getD 0 undef, args.getD 1 undef, u12, u13, u14, u15, u16, u17, u18, u19, u20, u21, .int .i64 j, .bool true, u24, u25, .func (.func 35) #[] #[.pointer (some ⟨Ba, 0, none⟩)], args.getD 0 undef, args.getD 1 undef, u29, u30, u31, u32, u33, u34, u35, u36, u37, u38, u39, u40, u41, u42, u43, u44, u45, u46, u47, u48, u49, u50, u51, u52, u53, u54, u55, u56, u57, u58, u59, u60, u61, u62, u63, u64, u65, u66, u67, u68, u69, u70, u71, u72, u73, u74], defers := [] }) ?assign ?body ?done ?stop
      case bears =>
        rintro k V V' ⟨h1, h2⟩ f
        exact ⟨fresh_trans h1 f, h2.of_block (f.block _ h2.lt)⟩
      case puts =>
        rintro k V l o o' hl hV hc ⟨h1, h2⟩
        exact ⟨below_put hV (by rw [hWs] at hl; omega) h1, row_put hV hc h2⟩
      case putsx =>
        rintro id k V l o o' hl hV hc ⟨e1, e2, e3, h1, h2⟩
        exact ⟨e1, e2, e3, below_put hV (by rw [hWs] at hl; omega) h1, row_put hV hc h2⟩
      case assign =>
        rintro l k args V K ⟨u, rfl, hP⟩ hK
        gi_wp2
        exact hK
      case body =>
        rintro l k args V hk ⟨h1, h2⟩ ⟨u, rfl, hP⟩
        simp only [show (#[Value.int .i64 (k : Int), u] : Array Value).getD 0 undef = .int .i64 (k : Int) from rfl, show (#[Value.int .i64 (k : Int), u] : Array Value).getD 1 undef = u from rfl]
        have hV5 := fresh_trans hlow h1
        have hVF := fresh_trans hF5 hV5
        obtain ⟨y0, y1⟩ := row2 (s0.of_block (hV5.block _ s0.lt))
        obtain ⟨cN, fNn⟩ := row1 h2
        obtain ⟨au, ku, rfl, ru⟩ := hP.get
        have HRB := hidd (rbytes_any (hb.fresh hVF) (hp.fresh hVF) (by omega) (k : Int) 0 (d.pc k) (HG.out k hk))
        gi_wp2_with fail
        refine ⟨trivial, ?_⟩
        gi_at_call 16
        refine (CallsIn.inRound l (callsIn_wide.2 HRB.out)).mono ?_
        rintro e V2 ⟨v2, rfl, hO2, hf2⟩
        obtain ⟨a2, k2, rfl, rd2⟩ := hO2.get
        have ru2 := ru.fresh hf2
        have h12 := fresh_trans h1 hf2
        have h22 := h2.of_block (hf2.block _ h2.lt)
        have hn2 := h22.lt
        obtain ⟨cN2, fN2⟩ := row1 h22
        have HEQ := hidd (eqBytes_same ru2 rd2 (fun _ _ => rfl))
        clear cN fNn y0 y1 HRB hO2
        gi_wp2_with fail
        refine ⟨trivial, ?_⟩
        gi_at_call 17
        refine (CallsIn.inRound l (callsIn_wide.2 HEQ.out)).mono ?_
        rintro e V3 ⟨rfl, hf3⟩
        have h13 := fresh_trans h12 hf3
        have h23 := h22.of_block (hf3.block _ h22.lt)
        have hV35 := fresh_trans hlow h13
        have hVV : Below V.heap.size V V3 := fresh_trans hf2 hf3
        obtain ⟨cN3, fN3⟩ := row1 h23
        obtain ⟨cM, _⟩ := row1 (s1.of_block (hV35.block _ s1.lt))
        obtain ⟨cJ, _⟩ := row1 (rR.of_block (h13.block _ rR.lt))
        have KO := hidd ((KeepsOthers.of_below hVV).trans (KeepsOthers.setCell V3 ⟨W.heap.size, 0, none⟩ (.int .i64 ((k : Int) + 1))))
        have KP : Hid (KpS base w5.heap.size V (V3.setCell ⟨W.heap.size, 0, none⟩ (.int .i64 ((k : Int) + 1)))) := (KpS.of_fresh hVV (Nat.le_trans hW5 (h1.size))).trans ⟨by simp, fun b h1 h2 => Go.Deep.blk_setCell_other _ _ _ _ (by dsimp only; omega)⟩
        have HL := hidd (h13.setCell (p := ⟨W.heap.size, 0, none⟩) (Nat.le_refl _) (.int .i64 ((k : Int) + 1)))
        have HR2 := hidd (show (V3.setCell ⟨W.heap.size, 0, none⟩ (.int .i64 ((k : Int) + 1))).rowIs W.heap.size 3 1 (fun _ => .int .i64 ((k + 1 : Nat) : Int)) by
          have := row1_set h23 (.int .i64 ((k : Int) + 1))
          simpa using this)
        have wk : IntKind.i64.wrap ((k : Int) + 1) = (k : Int) + 1 := Go.IntWalk.i64_in _ (by omega)
        clear HEQ cN2 fN2 h22 h12 hf2 hf3 ru ru2 rd2 hP h1 h2
        have j0 : (0 : Int) ≤ (j : Int) := Int.natCast_nonneg _
        by_cases hodd : j % 2 = 1
        · have t1 : ((j : Int) % 2 == 1) = true := by simp; omega
          by_cases hmost : (k : Int) + 1 = most
          · have t2 : ((k : Int) + 1 == most) = true := by simpa using hmost
            have HMo := hidd hmost
            clear hmost
            gi_wp2
            exact ⟨KO.out, rfl, by rw [← HMo.out]; rfl, hodd, HL.out, HR2.out⟩
          · have t2 : ((k : Int) + 1 == most) = false := by simpa using hmost
            gi_wp2
            exact ⟨KO.out, KP.out, HL.out, HR2.out⟩
        · have t1 : ((j : Int) % 2 == 1) = false := by simp; omega
          gi_wp2
          exact ⟨KO.out, KP.out, HL.out, HR2.out⟩
      case done =>
        rintro D V hD ⟨h1, h2⟩ hK
        rw [hWs] at hD
        obtain ⟨cN, fNn⟩ := row1 h2
        obtain ⟨cJ, fJ⟩ := row1 (rR.of_block (h1.block _ rR.lt))
        have tN : ((N : Int) != (N : Int)) = false := by simp
        have j0 : (0 : Int) ≤ (j : Int) := Int.natCast_nonneg _
        · gi_wp2
          have hD2 := (Array.getElem?_eq_some_iff.1 hK).1
          have fV := fresh_alloc V (.cells #[.int .i64 ((j : Int) + 1)] 3)
          have e := EDS.out
          subst e
          refine ⟨m - 1, by omega, j + 1, V.heap.size, D :: Ds, by omega, ⟨_, _, _, _, _, _, _, _, _, _, _, _, _, _, _, _, _, _, _, _, _, _, _, _, _, _, _, _, _, _, _, _, _, _, _, _, _, _, _, _, _, _, _, _, _, _, _, _, _, _, _, _, _, _, _, _, _, _, _, _, _, _, _, _, _, _, rfl⟩, List.nodup_cons.2 ⟨fun hD3 => ?_, HND.out⟩, fun E hE => ?_, Nat.le_trans hW5 h1.size, ?_, fresh_trans (fresh_trans hlow h1) fV⟩
          · have := (Array.getElem?_eq_some_iff.1 (HDS.out D hD3).2).1
            omega
          · rcases List.mem_cons.1 hE with e | e
            · rw [e]
              exact ⟨by omega, (fV.block D hD2).trans hK⟩
            · obtain ⟨h3, h4⟩ := HDS.out E e
              have h5 := (Array.getElem?_eq_some_iff.1 h4).1
              exact ⟨h3, (fV.block E (Nat.lt_of_lt_of_le h5 h1.size)).trans ((h1.block E h5).trans h4)⟩
          · simpa using row1_new V 3 (.int .i64 ((j : Int) + 1))
      case stop =>
        rintro D id k V hD hk ⟨rfl, rfl, hodd, h1, h2⟩ hK
        rw [hWs] at hD
        obtain ⟨cN, fNn⟩ := row1 h2
        obtain ⟨cJ, fJ⟩ := row1 (rR.of_block (h1.block _ rR.lt))
        obtain ⟨cM, _⟩ := row1 (s1.of_block ((fresh_trans hlow h1).block _ s1.lt))
        have j0 : (0 : Int) ≤ (j : Int) := Int.natCast_nonneg _
        have t0 : ((j : Int) % 2 == 0) = false := by simp; omega
        have tk : ((k : Int) != (k : Int)) = false := by simp
        by_cases hkN : k = N
        · have tN : ((k : Int) != (N : Int)) = false := by simp [hkN]
          gi_wp2
          have hD2 := (Array.getElem?_eq_some_iff.1 hK).1
          have fV := fresh_alloc V (.cells #[.int .i64 ((j : Int) + 1)] 3)
          have e := EDS.out
          subst e
          refine ⟨m - 1, by omega, j + 1, V.heap.size, D :: Ds, by omega, ⟨_, _, _, _, _, _, _, _, _, _, _, _, _, _, _, _, _, _, _, _, _, _, _, _, _, _, _, _, _, _, _, _, _, _, _, _, _, _, _, _, _, _, _, _, _, _, _, _, _, _, _, _, _, _, _, _, _, _, _, _, _, _, _, _, _, _, rfl⟩, List.nodup_cons.2 ⟨fun hD3 => ?_, HND.out⟩, fun E hE => ?_, Nat.le_trans hW5 h1.size, ?_, fresh_trans (fresh_trans hlow h1) fV⟩
          · have := (Array.getElem?_eq_some_iff.1 (HDS.out D hD3).2).1
            omega
          · rcases List.mem_cons.1 hE with e | e
            · rw [e]
              exact ⟨by omega, (fV.block D hD2).trans hK⟩
            · obtain ⟨h3, h4⟩ := HDS.out E e
              have h5 := (Array.getElem?_eq_some_iff.1 h4).1
              exact ⟨h3, (fV.block E (Nat.lt_of_lt_of_le h5 h1.size)).trans ((h1.block E h5).trans h4)⟩
          · simpa using row1_new V 3 (.int .i64 ((j : Int) + 1))
        · have tN : ((k : Int) != (N : Int)) = true := by simp; omega
          gi_wp2
          have hD2 := (Array.getElem?_eq_some_iff.1 hK).1
          have fV := fresh_alloc V (.cells #[.int .i64 ((j : Int) + 1)] 3)
          have e := EDS.out
          subst e
          refine ⟨m - 1, by omega, j + 1, V.heap.size, D :: Ds, by omega, ⟨_, _, _, _, _, _, _, _, _, _, _, _, _, _, _, _, _, _, _, _, _, _, _, _, _, _, _, _, _, _, _, _, _, _, _, _, _, _, _, _, _, _, _, _, _, _, _, _, _, _, _, _, _, _, _, _, _, _, _, _, _, _, _, _, _, _, rfl⟩, List.nodup_cons.2 ⟨fun hD3 => ?_, HND.out⟩, fun E hE => ?_, Nat.le_trans hW5 h1.size, ?_, fresh_trans (fresh_trans hlow h1) fV⟩
          · have := (Array.getElem?_eq_some_iff.1 (HDS.out D hD3).2).1
            omega
          · rcases List.mem_cons.1 hE with e | e
            · rw [e]
              exact ⟨by omega, (fV.block D hD2).trans hK⟩
            · obtain ⟨h3, h4⟩ := HDS.out E e
              have h5 := (Array.getElem?_eq_some_iff.1 h4).1
              exact ⟨h3, (fV.block E (Nat.lt_of_lt_of_le h5 h1.size)).trans ((h1.block E h5).trans h4)⟩
          · simpa using row1_new V 3 (.int .i64 ((j : Int) + 1))
    · have tj : decide ((j : Int) < 4) = false := by simp; omega
      obtain ⟨x0, x1⟩ := row2 (c5.of_block (hlow.block _ c5.lt))
      obtain ⟨y0, y1⟩ := row2 (s0.of_block (hlow.block _ s0.lt))
      gi_wp2_with fail
      refine ⟨trivial, ?_⟩
      gi_at_call 14
      have hFW := fresh_trans hF5 hlow
      refine (callsIn_wide.2 (still_any (hT5.kept hlow) (hb.fresh hFW) (hp.fresh hFW) n1 n2)).mono ?_
      rintro e w9 ⟨rfl, hf9⟩
      have g2 := s2.of_block ((fresh_trans hlow hf9).block _ s2.lt)
      have hg2l := s2.lt
      obtain ⟨k2, f2⟩ := row1 g2
      have H2 := hidd (row1_set g2 (.bool true))
      have HL := hidd ((fresh_trans hFW hf9).setCell (p := ⟨w.heap.size + 1 + 1, 0, none⟩) (by dsimp only; omega) (.bool true))
      have HM : Hid (∀ D ∈ Ds, w5.heap.size ≤ D ∧ (w9.setCell ⟨w.heap.size + 1 + 1, 0, none⟩ (.bool true)).heap[D]? = some (.deferred (some []))) := fun D hD => by
        obtain ⟨h1, h2⟩ := HDS.out D hD
        refine ⟨h1, ?_⟩
        rw [Below.heap_setCell _ _ _ _ (by dsimp only; omega), hf9.block D (Array.getElem?_eq_some_iff.1 h2).1]
        exact h2
      clear x0 x1 y0 y1
      gi_wp2
      rw [EDS.out]
      refine leaves_marks (B := w5.heap.size) (fun V => V.rowIs (w.heap.size + 1 + 1) 4 1 (fun _ => .bool true) ∧ Below w.heap.size w V) (fun V D hD hV ⟨h1, h2⟩ => ⟨row_put hV rfl h1, below_put hV (by omega) h2⟩) (fun V ⟨h1, h2⟩ => ?_) Ds _ HND.out HM.out ⟨H2.out, HL.out⟩
      exact ⟨.bool true, results_bool Try.results5 _ _ (w.heap.size + 1 + 1) true rfl (row1 h1).1, rfl, h2⟩
end Go.Proofs.Yteiocgciblogdaa
