import Derived.Test.YteiocgciblogdabVPie
import Derived.Test.YteiocgciblogdabVSiz
namespace Go.Proofs.Yteiocgciblogdab
open Go.RowKit
/-! Decode and Bytes. -/
def VD.good (d : VD) (x : Int) : Prop := 0 ≤ x ∧ x < ((d.nb + 1 + d.np : Nat) : Int)
def VD.dec (d : VD) (T : Nat → Int) : Nat → List Int
  | 0 => []
  | k + 1 => d.dec T k ++ d.pc (T k).toNat
/-- what Decode of n tokens gives -/
def VD.decOut (d : VD) (T : Nat → Int) (n : Nat) (x : Int) (l : List Int) : Prop :=
  (¬ d.Right ∧ x = 50 ∧ l = []) ∨ (d.Right ∧ (∃ i, i < n ∧ ¬ d.good (T i)) ∧ x = 52 ∧ l = []) ∨ (d.Right ∧ (∀ i, i < n → d.good (T i)) ∧ x = 0 ∧ l = d.dec T n)
theorem VD.decOut_some (d : VD) (T : Nat → Int) (n : Nat) : ∃ x l, d.decOut T n x l := by
  by_cases h : d.Right
  · by_cases g : ∀ i, i < n → d.good (T i)
    · exact ⟨_, _, .inr (.inr ⟨h, g, rfl, rfl⟩)⟩
    · exact ⟨_, _, .inr (.inl ⟨h, Classical.byContradiction fun c => g fun i hi => Classical.byContradiction fun e => c ⟨i, hi, e⟩, rfl, rfl⟩)⟩
  · exact ⟨_, _, .inl ⟨h, rfl, rfl⟩⟩
theorem VD.Right.len_all {d : VD} (h : d.Right) (t : Nat) (ht : t < d.nb + 1 + d.np) : (d.pc t).length ≤ 16 := d.len_le h.len t ht
theorem VD.dec_len {d : VD} (h : d.Right) {T : Nat → Int} : ∀ (k : Nat), (∀ i, i < k → d.good (T i)) → (d.dec T k).length ≤ 16 * k
  | 0, _ => by simp [VD.dec]
  | k + 1, g => by
    have h1 := VD.dec_len h k (fun i hi => g i (by omega))
    obtain ⟨g1, g2⟩ := g k (by omega)
    have h2 := h.len_all (T k).toNat (by omega)
    simp only [VD.dec, List.length_append]; omega
theorem TabAt.any {w : World} {base : Nat} {d : VD} {v : Value} {n : Nat} {A : Nat → Value} (h : TabAt w base d v n A) (hn : 0 < n) : ∃ g cap, v = .slice (some ⟨g, 0, none⟩) n cap ∧ ∀ t, t < n → ∃ u k, w.cell? ⟨g, t, none⟩ = some (.slice u (d.pc t).length k) ∧ (0 < (d.pc t).length → ∃ b, u = some ⟨b, 0, none⟩ ∧ ∀ j, j < (d.pc t).length → w.cell? ⟨b, j, none⟩ = some (.int .u8 ((d.pc t).getD j 0))) := by
  obtain ⟨ao, cap, rfl, hr⟩ := h.own.rd
  obtain ⟨g, off, rfl, hc⟩ := hr.one hn
  have hoff : off = 0 := by
    rcases h.own.2 with ⟨e, _⟩ | ⟨g', cap', cur, e, _⟩
    · cases e
    · cases e; rfl
  subst hoff
  refine ⟨g, cap, rfl, fun t ht => ?_⟩
  obtain ⟨u, k, e, _, _, h3⟩ := h.at_ t ht
  have := hc t ht
  rw [e] at this
  exact ⟨u, k, by simpa using this, fun h0 => by obtain ⟨b, e, _, _, hcs⟩ := h3 h0; exact ⟨b, e, hcs⟩⟩
theorem run_append_zero {P : Program} (w : World) (t ty e : TypeId) (ht : P.underlying t = some (.slice e)) {i : TypeInfo} (hi : P.info? e = some i) (ao u : Option Addr) (n cap k : Nat) (hle : n ≤ cap) :
    (Builtin.append_ #[t, t] ty #[.slice ao n cap, .slice u 0 k]).run P w = .ok (.slice ao n cap) w := by
  have hF : ∀ w, (Builtin.firstCells i.size 0 (.slice u 0 k)).run P w = .ok #[] w := fun w => by
    cases u with
    | none => exact run_firstCells_none w i.size 0 0 k
    | some a => exact run_firstCells_some w i.size 0 a 0 k [] (by simp) (by simp)
  cases ao with
  | none => cases u <;> simp [Builtin.append_, run_underlying ht, sizeOf, typeInfo, hi, Builtin.lenOf, hle, hF]
  | some a => cases u <;> simp [Builtin.append_, run_underlying ht, sizeOf, typeInfo, hi, Builtin.lenOf, hle, hF, storeCells]
theorem own_cases {w : World} {base : Nat} {e : TypeId} {sz : Nat} {v : Value} {n : Nat} {cs : Nat → Value} (h : Own w base e sz v n cs) : (v = .slice none 0 0 ∧ n = 0) ∨ ∃ g cap, v = .slice (some ⟨g, 0, none⟩) n cap := by
  rcases h.2 with ⟨h1, h2⟩ | ⟨g, cap, cur, h1, _⟩
  · exact .inl ⟨h1, h2⟩
  · exact .inr ⟨g, cap, h1⟩
set_option maxRecDepth 20000 in
set_option maxHeartbeats 4000000 in
theorem pdec_any {w : World} {d : VD} {bo po ko : Option Addr} {cb cp n ck : Nat} {T : Nat → Int} (hb : RdA w bo 1 d.nb cb (fun i => .int .u8 (d.B i))) (hp : RdA w po 2 d.np cp (tcs d.P d.Q)) (hk : RdA w ko 1 n ck (fun i => .int .i64 (T i))) (hn : n ≤ 1048576) (x : Int) (l : List Int) (hx : d.decOut T n x l) :
    Calls Try.prog 17 #[.agg #[.slice bo d.nb cb, .slice po d.np cp], .slice ko n ck] w fun e w' => ∃ v, e = .returned (.tuple #[v, .int .i64 x]) ∧ OwnB w' w.heap.size v l ∧ Below w.heap.size w w' := by
  have hf0 := fresh_alloc w (.cells #[.slice bo d.nb cb, .slice po d.np cp] 25)
  have HX := hidd hx
  clear hx
  go_enter Try.func17, Try.ntmps17
  go_wp2_with fail
  refine (pieces_any (hb.fresh hf0) (hp.fresh hf0)).mono ?_
  rintro e w2 ⟨h, hf2⟩
  have hF := fresh_trans hf0 hf2
  rcases h with ⟨hR, v, A, rfl, hT⟩ | ⟨hR, rfl⟩
  · obtain ⟨z1, z2, z3⟩ := hR.cnt
    obtain ⟨g, cap, rfl, hG⟩ := hT.any (by omega)
    have HR := hidd hR
    have HG := hidd hG
    obtain ⟨N, eN⟩ : ∃ N, N = d.nb + 1 + d.np := ⟨_, rfl⟩
    have EN := hidd eN
    have hN0 : 0 < N := by omega
    have hN1 : N ≤ 64 := by omega
    rw [← eN]
    clear hR hG hT hf2 eN
    go_wp2
    go_loopw [7, 20] (fun s i wr => ∃ k : Nat, k ≤ n ∧ i = .int .i64 k ∧ Hid (∀ i, i < k → d.good (T i)) ∧ s = .int .i64 ((d.dec T k).length : Int) ∧ Same w2 wr) (fun _ i _ => n - (intOf i).toNat)
    case atStart => exact ⟨0, by omega, rfl, (fun i hi => absurd hi (by omega)), rfl, (rfl : _ = _)⟩
    case round =>
      obtain ⟨k, hkn, rfl, HGd, rfl, hs⟩ := hrel
      unfold Same at hs
      have hs' := hs.symm
      clear hs
      subst hs'
      by_cases hlt : k < n
      · obtain ⟨b1, o1, rfl, hc⟩ := (hk.fresh hF).one (by omega)
        have c1 := hc k hlt
        clear hc
        by_cases g1 : T k < 0
        · have e := HX.out
          have hbad : ¬ d.good (T k) := fun h => by have := h.1; omega
          obtain ⟨rfl, rfl⟩ : x = 52 ∧ l = [] := by
            rcases e with ⟨h, _⟩ | ⟨_, _, e1, e2⟩ | ⟨_, h, _⟩
            · exact absurd HR.out h
            · exact ⟨e1, e2⟩
            · exact absurd (h k hlt) hbad
          clear e hbad
          go_wp2
          go_ret2
          exact ⟨_, rfl, ownB_nil _ _, hF⟩
        by_cases g2 : (N : Int) ≤ T k
        · have e := HX.out
          have hbad : ¬ d.good (T k) := fun h => by have := h.2; have := EN.out; omega
          obtain ⟨rfl, rfl⟩ : x = 52 ∧ l = [] := by
            rcases e with ⟨h, _⟩ | ⟨_, _, e1, e2⟩ | ⟨_, h, _⟩
            · exact absurd HR.out h
            · exact ⟨e1, e2⟩
            · exact absurd (h k hlt) hbad
          clear e hbad
          go_wp2
          go_ret2
          exact ⟨_, rfl, ownB_nil _ _, hF⟩
        have GD : Hid (d.good (T k)) := ⟨by omega, by have := EN.out; omega⟩
        obtain ⟨t, eT⟩ : ∃ t : Nat, T k = (t : Int) := ⟨(T k).toNat, by omega⟩
        have ET := hidd eT
        rw [eT] at c1 g1 g2
        clear eT
        have lt : t < N := by omega
        obtain ⟨u, kk, cu, _⟩ := HG.out t (by have := EN.out; omega)
        have hl1 := VD.dec_len HR.out k HGd.out
        have hl2 := HR.out.len_all t (by have := EN.out; omega)
        have hE : Hid ((d.dec T (k + 1)).length = (d.dec T k).length + (d.pc t).length) := by show _ = _; simp only [VD.dec, List.length_append, ET.out]; rfl
        go_wp2
        go_roundw
        case rel => exact ⟨k + 1, by omega, by go_num, (fun i hi => if h : i = k then h ▸ GD.out else HGd.out i (by omega)), by rw [hE.out]; go_num, (rfl : _ = _)⟩
        case measure => simp [intOf]; omega
      · obtain rfl : k = n := by omega
        obtain ⟨rfl, rfl⟩ : x = 0 ∧ l = d.dec T k := by
          rcases HX.out with ⟨h, _⟩ | ⟨_, ⟨i, hi, h⟩, _⟩ | ⟨_, _, e1, e2⟩
          · exact absurd HR.out h
          · exact absurd (HGd.out i hi) h
          · exact ⟨e1, e2⟩
        clear HX
        have hl1 := VD.dec_len HR.out k HGd.out
        obtain ⟨i0, hi0, hz0, hz1, hz2⟩ := info_parts infoB
        obtain ⟨S, eS⟩ : ∃ S, S = (d.dec T k).length := ⟨_, rfl⟩
        rw [← eS] at hl1
        rw [← eS]
        clear eS
        go_wp2_with (at_make; refine wpList_make_own _ rfl _ _ 22 rfl w2.heap.size 5 i0 (.int .u8 0) 1 Try.underlying22 hi0 hz0 hz1 .i64 .i64 _ S rfl rfl (by first | rfl | omega) (by rw [hz2]; omega) (by unfold maxLen; omega) (Nat.le_refl _) ?_; intro w5 hown5 hgrow5)
        have hO5 : Own w5 w2.heap.size 5 1 (.slice (some ⟨w2.heap.size, 0, none⟩) 0 S) 0 (fun j => .int .u8 ((d.dec T 0).getD j 0)) := by unfold Own; simpa using hown5
        have hf5 : Below w2.heap.size w2 w5 := (Below.refl _ _).grown hgrow5 (Nat.le_refl _) (fun k hk => by cases hk)
        have HI := hidd hi0
        clear hown5 hgrow5 hi0 hz0 hz1 hz2
        go_wp2
        go_loopw [10, 44] (fun v i wr => ∃ m : Nat, m ≤ k ∧ i = .int .i64 m ∧ Own wr w2.heap.size 5 1 v (d.dec T m).length (fun j => .int .u8 ((d.dec T m).getD j 0)) ∧ Below w2.heap.size w2 wr) (fun _ i _ => k - (intOf i).toNat)
        case atStart => exact ⟨0, by omega, rfl, hO5, hf5⟩
        case round =>
          clear hO5 hf5
          obtain ⟨m, hm, rfl, hO, hf⟩ := hrel
          have hsz := hf.size
          by_cases hlt : m < k
          · obtain ⟨b1, o1, rfl, hc⟩ := ((hk.fresh hF).fresh hf).one (by omega)
            have c1 := hc m hlt
            clear hc
            obtain ⟨t, eT⟩ : ∃ t : Nat, T m = (t : Int) := ⟨(T m).toNat, by have := (HGd.out m hlt).1; omega⟩
            have lt : t < N := by have := (HGd.out m hlt).2; have := EN.out; omega
            obtain ⟨u, kk, cu, hcs⟩ := HG.out t (by have := EN.out; omega)
            have cu' := fresh_cell hf cu
            have hdec : d.dec T (m + 1) = d.dec T m ++ d.pc t := by simp only [VD.dec, eT]; rfl
            have hl3 := VD.dec_len HR.out m (fun i hi => HGd.out i (by omega))
            have hl4 := HR.out.len_all t (by have := EN.out; omega)
            have HD := hidd hdec
            have HL : Hid ((d.dec T (m + 1)).length = (d.dec T m).length + (d.pc t).length) := by show _ = _; rw [hdec, List.length_append]
            rw [eT] at c1
            clear eT cu hdec
            have hO1 : Own wr w2.heap.size 5 1 _ (d.dec T m).length (fun j => .int .u8 ((d.dec T (m + 1)).getD j 0)) := hO.congr (fun j hj => by rw [HD.out, getD_app_lo (by omega)])
            clear hO
            by_cases h0 : 0 < (d.pc t).length
            · obtain ⟨b, rfl, hcs2⟩ := hcs h0
              have HC : Hid (∀ j, j < (d.pc t).length * 1 → wr.cell? ⟨b, j, none⟩ = some ((fun j => Value.int .u8 ((d.dec T (m + 1)).getD j 0)) ((d.dec T m).length * 1 + j))) := fun j hj => by
                rw [fresh_cell hf (hcs2 j (by omega)), HD.out]
                dsimp only
                rw [show (d.dec T m).length * 1 + j = (d.dec T m).length + j by omega, getD_app_hi]
              clear hcs hcs2
              obtain ⟨D, eD⟩ : ∃ D, D = (d.dec T m).length := ⟨_, rfl⟩
              rw [← eD] at hO1 HC hl3 HL
              clear eD
              go_wp2_with (at_builtin; refine wpList_app _ rfl _ _ 22 rfl w2.heap.size 5 (.int .u8 0) 1 1 Try.underlying22 infoB rfl (by decide) _ D _ rfl hO1 b (d.pc t).length kk rfl HC.out (fun _ _ => rfl) h0 (by unfold maxLen; omega) (by omega) hsz ?_)
              intro v' w6 hown' happ
              have hf6 := happ.below hf hO1 (Nat.le_refl _) hsz
              clear happ hO1 hf c1 cu'
              go_wp2
              go_roundw
              case rel => exact ⟨m + 1, by omega, by go_num, by rw [HL.out]; exact hown', hf6⟩
              case measure => simp [intOf]; omega
            · have e0 : (d.pc t).length = 0 := by omega
              rw [e0] at cu' HL
              clear h0 hcs hl4 e0
              obtain ⟨D, eD⟩ : ∃ D, D = (d.dec T m).length := ⟨_, rfl⟩
              rw [← eD] at hO1 hl3 HL
              clear eD
              obtain ⟨av, kv, rfl, _⟩ := hO1.rd
              go_wp2_with (at_builtin; refine Lib.wpList_append_run _ rfl _ _ _ _ rfl _ _ rfl rfl _ _ (run_append_zero _ 22 _ 5 Try.underlying22 HI.out av u D kv kk hO1.rda.le) ?_)
              go_roundw
              case rel => exact ⟨m + 1, by omega, by go_num, by rw [HL.out]; exact hO1, hf⟩
              case measure => simp [intOf]; omega
          · obtain rfl : m = k := by omega
            have hFF := fresh_trans hF hf
            go_wp2
            go_ret2
            exact ⟨_, rfl, Own.weaken hO hF.size, hFF⟩
  · obtain ⟨rfl, rfl⟩ : x = 50 ∧ l = [] := by
      rcases HX.out with ⟨_, e1, e2⟩ | ⟨h, _⟩ | ⟨h, _⟩
      · exact ⟨e1, e2⟩
      · exact absurd h hR
      · exact absurd h hR
    go_wp2
    go_ret2
    exact ⟨_, rfl, ownB_nil _ _, hF⟩
end Go.Proofs.Yteiocgciblogdab
