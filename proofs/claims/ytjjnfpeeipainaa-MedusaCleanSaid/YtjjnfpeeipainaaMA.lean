import Derived.Test.YtjjnfpeeipainaaOwn
import Derived.Test.YtjjnfpeeipainaaRows
import Derived.RangeFuncRecord
import Derived.Test.YtjjnfpeeipainaaCpA
import Derived.Deep.RegionHeld3
namespace Go.Proofs.Ytjjnfpeeipainaa
open Go.RowKit
/-! The tree that grows, as a list: parents and tokens. -/
/-- the nodes of one depth: n parents from the place F - 1 on, the tokens T behind each -/
def kds (F n : Nat) (T : List Int) : List (Int × Int) := (List.range n).flatMap (fun i => T.map (fun t => (((F + i : Nat) : Int) - 1, t)))
theorem kds_zero (F : Nat) (T : List Int) : kds F 0 T = [] := rfl
theorem kds_succ (F n : Nat) (T : List Int) : kds F (n + 1) T = kds F n T ++ T.map (fun t => (((F + n : Nat) : Int) - 1, t)) := by
  unfold kds
  rw [List.range_succ, List.flatMap_append]
  simp
theorem kds_nil (F n : Nat) : kds F n [] = [] := by
  induction n with
  | zero => rfl
  | succ n ih => rw [kds_succ, ih]; rfl
theorem kds_pre (F : Nat) (T : List Int) {a b : Nat} (h : a ≤ b) : kds F a T <+: kds F b T := by
  induction b with
  | zero => obtain rfl : a = 0 := by omega
            exact List.prefix_rfl
  | succ b ih =>
    by_cases e : a = b + 1
    · subst e; exact List.prefix_rfl
    · rw [kds_succ]
      exact (ih (by omega)).trans (List.prefix_append _ _)
/-- the list behind one depth more -/
def nxt (F E : Nat) (T : List Int) (A : List (Int × Int)) : List (Int × Int) := (A ++ kds F (E - F) T).take 96
/-- the list behind all depths -/
def gr : List (List Int) → Nat → Nat → List (Int × Int) → List (Int × Int)
  | [], _, _, A => A
  | T :: ts, F, E, A => gr ts E ((nxt F E T A).length + 1) (nxt F E T A)
theorem nxt_len (F E : Nat) (T : List Int) (A : List (Int × Int)) : (nxt F E T A).length ≤ 96 := by
  unfold nxt
  rw [List.length_take]
  omega
theorem nxt_pre (F E : Nat) (T : List Int) {A : List (Int × Int)} (h : A.length ≤ 96) : A <+: nxt F E T A := by
  unfold nxt
  rw [List.prefix_take_iff]
  exact ⟨List.prefix_append _ _, h⟩
theorem gr_len : ∀ (ts : List (List Int)) (F E : Nat) (A : List (Int × Int)), A.length ≤ 96 → (gr ts F E A).length ≤ 96
  | [], _, _, _, h => h
  | T :: ts, F, E, A, _ => gr_len ts E _ _ (nxt_len F E T A)
theorem gr_pre : ∀ (ts : List (List Int)) (F E : Nat) (A : List (Int × Int)), A.length ≤ 96 → A <+: gr ts F E A
  | [], _, _, _, _ => List.prefix_rfl
  | T :: ts, F, E, A, h => (nxt_pre F E T h).trans (gr_pre ts E _ _ (nxt_len F E T A))
theorem gr_app : ∀ (ts us : List (List Int)) (F E : Nat) (A : List (Int × Int)), A.length ≤ 96 → gr ts F E A <+: gr (ts ++ us) F E A
  | [], us, F, E, A, h => gr_pre us F E A h
  | T :: ts, us, F, E, A, _ => gr_app ts us E _ _ (nxt_len F E T A)
/-- a full list stays -/
theorem pre_full {A B : List (Int × Int)} (h : A <+: B) (ha : A.length = 96) (hb : B.length ≤ 96) : B = A := (h.eq_of_length (by have := h.length_le; omega)).symm
theorem gr_full {T : List Int} {ts : List (List Int)} {F E : Nat} {A B : List (Int × Int)} (hB : B <+: A ++ kds F (E - F) T) (hl : B.length = 96) : gr (T :: ts) F E A = B := by
  have h1 : nxt F E T A = B := by
    refine pre_full ?_ hl (nxt_len _ _ _ _)
    unfold nxt
    rw [List.prefix_take_iff]
    exact ⟨hB, by omega⟩
  show gr ts E ((nxt F E T A).length + 1) (nxt F E T A) = B
  rw [h1]
  exact pre_full (gr_pre ts _ _ B (by omega)) hl (gr_len _ _ _ _ (by omega))
theorem gr_fits {T : List Int} {ts : List (List Int)} {F E : Nat} {A : List (Int × Int)} (h : (A ++ kds F (E - F) T).length ≤ 96) : gr (T :: ts) F E A = gr ts E ((A ++ kds F (E - F) T).length + 1) (A ++ kds F (E - F) T) := by
  show gr ts E ((nxt F E T A).length + 1) (nxt F E T A) = _
  rw [show nxt F E T A = A ++ kds F (E - F) T from List.take_of_length_le h]
/-- no parents: nothing more -/
theorem gr_dead : ∀ (ts : List (List Int)) (E : Nat) (A : List (Int × Int)), A.length ≤ 96 → E = A.length + 1 → gr ts E E A = A
  | [], _, _, _, _ => rfl
  | T :: ts, E, A, h, e => by
    have : A ++ kds E (E - E) T = A := by rw [Nat.sub_self, kds_zero, List.append_nil]
    rw [gr_fits (by rw [this]; exact h), this, ← e]
    exact gr_dead ts E A h e
/-- a depth without tokens ends the tree -/
theorem gr_stop : ∀ (ts us : List (List Int)) (F E : Nat) (A : List (Int × Int)), A.length ≤ 96 → E = A.length + 1 → gr (ts ++ [] :: us) F E A = gr ts F E A
  | [], us, F, E, A, h, e => by
    have : A ++ kds F (E - F) [] = A := by rw [kds_nil, List.append_nil]
    show gr ([] :: us) F E A = A
    rw [gr_fits (by rw [this]; exact h), this, ← e]
    exact gr_dead us E A h e
  | T :: ts, us, F, E, A, _, _ => gr_stop ts us E _ _ (nxt_len F E T A) rfl
/-- one token at each depth: one way -/
def ln (k : Nat) (l : List Int) : List (Int × Int) := l.mapIdx (fun i t => (((k + i : Nat) : Int) - 1, t))
theorem ln_cons (k : Nat) (t : Int) (l : List Int) : ln k (t :: l) = ((k : Int) - 1, t) :: ln (k + 1) l := by
  unfold ln
  rw [List.mapIdx_cons]
  simp only [Nat.add_zero]
  congr 2
  funext i x
  congr 2
  omega
theorem gr_line : ∀ (l : List Int) (k : Nat) (A : List (Int × Int)), A.length = k → k + l.length ≤ 96 → gr (l.map (fun t => [t])) k (k + 1) A = A ++ ln k l
  | [], k, A, _, _ => by simp [gr, ln]
  | t :: l, k, A, h, h2 => by
    have e : A ++ kds k (k + 1 - k) [t] = A ++ [((k : Int) - 1, t)] := by
      rw [show k + 1 - k = 0 + 1 by omega, kds_succ, kds_zero]
      simp
    have hl : (A ++ [((k : Int) - 1, t)]).length = k + 1 := by rw [List.length_append, h]; rfl
    rw [List.length_cons] at h2
    rw [List.map_cons, gr_fits (by rw [e, hl]; omega), e, hl, gr_line l (k + 1) _ hl (by omega), ln_cons, List.append_assoc]
    rfl
end Go.Proofs.Ytjjnfpeeipainaa
namespace Go.Proofs.Ytjjnfpeeipainaa
open Go.RowKit
/-! Raw nodes in memory; EqRaw. -/
theorem infoR : (Try.prog.info? 48).map (fun i => (i.zero, i.size, i.bytes)) = some (some (.agg #[.int .i64 0, .int .i64 0]), 2, 16) := by kernel_rfl
def rwF (R : List (Int × Int)) : Nat → Value := fun j => if j % 2 = 0 then .int .i64 (R.getD (j / 2) (0, 0)).1 else .int .i64 (R.getD (j / 2) (0, 0)).2
theorem rwF_app (R : List (Int × Int)) (x : Int × Int) (j : Nat) (h : j < R.length * 2) : rwF R j = rwF (R ++ [x]) j := by
  unfold rwF
  rw [List.getD_eq_getElem?_getD, List.getD_eq_getElem?_getD, List.getElem?_append_left (by omega)]
theorem rwF_fst (R : List (Int × Int)) (x : Int × Int) : rwF (R ++ [x]) (R.length * 2) = .int .i64 x.1 := by
  unfold rwF
  rw [if_pos (by omega), show R.length * 2 / 2 = R.length by omega]
  simp
theorem rwF_snd (R : List (Int × Int)) (x : Int × Int) : rwF (R ++ [x]) (R.length * 2 + 1) = .int .i64 x.2 := by
  unfold rwF
  rw [if_neg (by omega), show (R.length * 2 + 1) / 2 = R.length by omega]
  simp
theorem rwF_one (R : List (Int × Int)) (j : Nat) : (rwF R j).oneCell' = true := by
  unfold rwF
  split <;> rfl
theorem rwF_1 (R : List (Int × Int)) (k : Nat) : rwF R (k * 2) = .int .i64 (R.getD k (0, 0)).1 := by
  unfold rwF
  rw [if_pos (by omega), show k * 2 / 2 = k by omega]
theorem rwF_2 (R : List (Int × Int)) (k : Nat) : rwF R (k * 2 + 1) = .int .i64 (R.getD k (0, 0)).2 := by
  unfold rwF
  rw [if_neg (by omega), show (k * 2 + 1) / 2 = k by omega]
theorem rwF_pre {R S : List (Int × Int)} (h : R <+: S) {j : Nat} (hj : j < R.length * 2) : rwF R j = rwF S j := by
  obtain ⟨r, rfl⟩ := h
  unfold rwF
  rw [List.getD_eq_getElem?_getD, List.getD_eq_getElem?_getD, List.getElem?_append_left (by omega)]
theorem rw_cells (w : World) (R : List (Int × Int)) (p t : Int) {n : Nat} (hn : n = R.length) : ∀ j, j < 1 * 2 → (w.alloc (.cells #[.int .i64 p, .int .i64 t] 48)).cell? ⟨w.heap.size, j, none⟩ = some (rwF (R ++ [(p, t)]) (n * 2 + j)) := fun j hj => by
  subst hn
  unfold World.cell?
  rw [World.alloc_heap_new]
  match j, hj with
  | 0, _ => rw [Nat.add_zero, rwF_fst]; rfl
  | 1, _ => rw [rwF_snd]; rfl
set_option maxRecDepth 20000 in
set_option maxHeartbeats 1600000 in
theorem eqRaw_same {w : World} {ao bo : Option Addr} {ca cb n : Nat} {R : List (Int × Int)} (hnl : n = R.length) (ha : RdA w ao 2 n ca (rwF R)) (hb : RdA w bo 2 n cb (rwF R)) :
    Calls Try.prog 15 #[.slice ao n ca, .slice bo n cb] w fun e w' => e = .returned (.bool true) ∧ Below w.heap.size w w' := by
  have hn : n ≤ 9223372036854775807 := by have := ha.le; have := ha.top; unfold maxLen at this; omega
  go_enter Try.func15, Try.ntmps15
  go_wp2
  go_loopw [5] (fun i wr => ∃ k : Nat, k ≤ n ∧ i = .int .i64 k ∧ Below w.heap.size w wr) (fun i _ => n - (intOf i).toNat)
  case atStart => exact ⟨0, by omega, rfl, Below.refl _ _⟩
  case round =>
    obtain ⟨k, hk, rfl, hf⟩ := hrel
    by_cases hlt : k < n
    · obtain ⟨b1, o1, rfl, h1⟩ := (ha.fresh hf).at_ (by omega)
      obtain ⟨b2, o2, rfl, h2⟩ := (hb.fresh hf).at_ (by omega)
      have c1 := h1 (k * 2) (by omega)
      have d1 := h1 (k * 2 + 1) (by omega)
      have c2 := h2 (k * 2) (by omega)
      have d2 := h2 (k * 2 + 1) (by omega)
      rw [rwF_1] at c1 c2
      rw [rwF_2, ← Nat.add_assoc] at d1 d2
      generalize (R.getD k (0, 0)).1 = y1 at c1 c2
      generalize (R.getD k (0, 0)).2 = y2 at d1 d2
      clear h1 h2
      go_wp2
      go_quiet (fail)
      go_wp2
      go_roundw
      case rel => exact ⟨k + 1, by omega, by go_num, below_drewN hf _⟩
      case measure => simp [intOf]; omega
    · obtain rfl : n = k := by omega
      go_wp2
      go_ret
      exact ⟨rfl, hf⟩
/-- tokens in memory -/
def tkF (L : List Int) : Nat → Value := fun j => .int .i64 (L.getD j 0)
/-- lists of tokens in memory -/
structure Tk (w : World) (ao : Option Addr) (m cap : Nat) (X : Nat → List Int) (A : Nat → Option Addr) (C : Nat → Nat) : Prop where
  out : RdA w ao 1 m cap (fun i => .slice (A i) (X i).length (C i))
  inn : ∀ i, i < m → RdA w (A i) 1 (X i).length (C i) (tkF (X i))
theorem Tk.fresh {w w' : World} {ao : Option Addr} {m cap : Nat} {X : Nat → List Int} {A : Nat → Option Addr} {C : Nat → Nat} (h : Tk w ao m cap X A C) (f : Below w.heap.size w w') : Tk w' ao m cap X A C := ⟨h.out.fresh f, fun i hi => (h.inn i hi).fresh f⟩
/-- the tree of the first m lists -/
def grL (X : Nat → List Int) (m : Nat) : List (Int × Int) := gr ((List.range m).map X) 0 1 []
theorem drop_map (X : Nat → List Int) {i m : Nat} (h : i < m) : ((List.range m).map X).drop i = X i :: ((List.range m).map X).drop (i + 1) := by
  rw [List.drop_eq_getElem_cons (by simpa using h)]
  simp
theorem grL_len (X : Nat → List Int) (m : Nat) : (grL X m).length ≤ 96 := gr_len _ _ _ _ (by simp)
end Go.Proofs.Ytjjnfpeeipainaa
namespace Go.Proofs.Ytjjnfpeeipainaa
open Go.RowKit
/-! grow. -/
theorem take_tok (T : List Int) (q : Int) {j : Nat} (h : j < T.length) : (T.take (j + 1)).map (fun t => (q, t)) = (T.take j).map (fun t => (q, t)) ++ [(q, T.getD j 0)] := by
  rw [List.take_succ_eq_append_getElem h, List.map_append, List.getD_eq_getElem?_getD, List.getElem?_eq_getElem h]
  rfl
set_option maxRecDepth 20000 in
set_option maxHeartbeats 6400000 in
theorem grow_any {w : World} {ao : Option Addr} {m cap : Nat} {X : Nat → List Int} {A : Nat → Option Addr} {C : Nat → Nat} (h : Tk w ao m cap X A C) (hm : m ≤ 1048576) :
    Calls Try.prog 30 #[.slice ao m cap] w fun e w' => ∃ u c, e = .returned (.slice u (grL X m).length c) ∧ Own w' w.heap.size 48 2 (.slice u (grL X m).length c) (grL X m).length (rwF (grL X m)) ∧ Below w.heap.size w w' := by
  have HH := hidd h
  obtain ⟨L, HL⟩ : ∃ L, Hid (L = grL X m) := ⟨_, rfl⟩
  rw [← HL.out]
  have HRT : Hid (∀ (wr : World) (u : Option Addr) (n c : Nat) (B : List (Int × Int)), L = B → n = B.length → Own wr w.heap.size 48 2 (.slice u n c) n (rwF B) → Below w.heap.size w wr → ∃ u' c', Ending.returned (.slice u n c) = .returned (.slice u' L.length c') ∧ Own wr w.heap.size 48 2 (.slice u' L.length c') L.length (rwF L) ∧ Below w.heap.size w wr) := by
    intro wr u n c B e1 e2 h1 h2
    subst e1 e2
    exact ⟨u, c, rfl, h1, h2⟩
  clear h
  go_enter Try.func30, Try.ntmps30
  go_wp2
  go_loopw [3, 4, 5, 13] (fun v vf ve vi wr => ∃ (i F a : Nat) (f : Int) (B : List (Int × Int)), i ≤ m ∧ vi = .int .i64 i ∧ vf = .int .i64 f ∧ ve = .int .i64 (a : Int) ∧ a ≤ 96 ∧ Hid (f = (F : Int) - 1) ∧ Hid (F ≤ a + 1) ∧ Hid (a = B.length) ∧ Hid (gr (((List.range m).map X).drop i) F (a + 1) B = L) ∧ (∃ u c, v = .slice u a c ∧ Hid (Own wr w.heap.size 48 2 (.slice u a c) a (rwF B))) ∧ Hid (Below w.heap.size w wr)) (fun _ _ _ vi _ => m - (intOf vi).toNat)
  case atStart => exact ⟨0, 0, 0, -1, [], by omega, rfl, rfl, rfl, by omega, (by show (-1 : Int) = _; omega), (by show _ ≤ _; omega), rfl, HL.out.symm, ⟨none, 0, rfl, own_nil _ _ _ _ _⟩, Below.refl _ _⟩
  case round =>
    obtain ⟨i, F, a, f, B, hi, rfl, rfl, rfl, ha, HF, HFa, HAB, HG, ⟨u, c, rfl, HO⟩, HB⟩ := hrel
    by_cases hlt : i < m
    · have d1 : decide ((i : Int) < (m : Int)) = true := decide_eq_true (by omega)
      have d2 : (i : Int) < (m : Int) := by omega
      obtain ⟨b1, o1, hu, h1⟩ := (HH.out.out.fresh HB.out).one (by omega)
      subst hu
      have c1 : wr.cell? ⟨b1, o1 + i, none⟩ = some (.slice (A i) (X i).length (C i)) := h1 i hlt
      have HIN := hidd (HH.out.inn i hlt)
      have HG2 := HG
      rw [drop_map X hlt] at HG2
      obtain ⟨T, HT⟩ : ∃ T, Hid (T = X i) := ⟨_, rfl⟩
      obtain ⟨n, HN⟩ : ∃ n, Hid (n = T.length) := ⟨_, rfl⟩
      rw [← HT.out, ← HN.out] at c1 HIN
      rw [← HT.out] at HG2
      have hn : n ≤ 9223372036854775807 := by have := HIN.out.le; have := HIN.out.top; unfold maxLen at this; omega
      clear h1 HG
      go_wp2
      go_loopw [3, 8] (fun v vp wr => ∃ (p k : Nat) (q : Int), vp = .int .i64 q ∧ k ≤ 96 ∧ Hid (p ≤ a + 1 - F) ∧ Hid (q = (F : Int) + (p : Int) - 1) ∧ Hid (k = (B ++ kds F p T).length) ∧ (∃ u c, v = .slice u k c ∧ Hid (Own wr w.heap.size 48 2 (.slice u k c) k (rwF (B ++ kds F p T)))) ∧ Hid (Below w.heap.size w wr)) (fun _ vp _ => ((a : Int) - intOf vp).toNat)
      case atStart => exact ⟨0, a, f, rfl, ha, (by show _ ≤ _; omega), (by show _ = _; have := HF.out; omega), (by show _ = _; rw [kds_zero, List.append_nil]; exact HAB.out), ⟨u, c, rfl, (by show Own _ _ _ _ _ _ _; rw [kds_zero, List.append_nil]; exact HO.out)⟩, HB⟩
      case round =>
        obtain ⟨p, k, q, rfl, hk, HP, HQ, HK, ⟨u1, c1', rfl, HO1⟩, HB1⟩ := hrel
        by_cases hpl : q < (a : Int)
        · have e1 : decide (q < (a : Int)) = true := decide_eq_true hpl
          have hq0 : -1 ≤ q := by have := HQ.out; omega
          have HP2 : Hid (p < a + 1 - F) := by show _ < _; have := HQ.out; have := HF.out; omega
          have HS0 : Hid (Own wr w.heap.size 48 2 (.slice u1 k c1') k (rwF (B ++ kds F p T ++ (T.take 0).map (fun t => (q, t))))) := by
            have := HO1.out
            show Own _ _ _ _ _ _ _
            simpa using this
          have HK0 : Hid (k = (B ++ kds F p T ++ (T.take 0).map (fun t => (q, t))).length) := by
            show k = _
            rw [HK.out]; simp
          clear HO1 HK
          go_wp2
          go_loopw [3, 25] (fun v vj wr => ∃ (j k : Nat), j ≤ n ∧ vj = .int .i64 j ∧ k ≤ 96 ∧ Hid (k = (B ++ kds F p T ++ (T.take j).map (fun t => (q, t))).length) ∧ (∃ u c, v = .slice u k c ∧ Hid (Own wr w.heap.size 48 2 (.slice u k c) k (rwF (B ++ kds F p T ++ (T.take j).map (fun t => (q, t)))))) ∧ Hid (Below w.heap.size w wr)) (fun _ vj _ => n - (intOf vj).toNat)
          case atStart => exact ⟨0, k, by omega, rfl, hk, HK0, ⟨u1, c1', rfl, HS0⟩, HB1⟩
          case round =>
            obtain ⟨j, k2, hj, rfl, hk2, HK2, ⟨u2, c2, rfl, HO2⟩, HB2⟩ := hrel
            have hsz := HB2.out.size
            by_cases hjl : j < n
            · have e2 : decide ((j : Int) < (n : Int)) = true := decide_eq_true (by omega)
              have e3 : (j : Int) < (n : Int) := by omega
              have hjT : j < T.length := by have := HN.out; omega
              have HPR : Hid (B ++ kds F p T ++ (T.take j).map (fun t => (q, t)) <+: B ++ kds F (a + 1 - F) T) := by
                have h9 : kds F p T ++ (T.take j).map (fun t => (q, t)) <+: kds F (p + 1) T := by
                  rw [kds_succ]
                  have e9 : (((F + p : Nat) : Int) - 1) = q := by have := HQ.out; omega
                  rw [e9]
                  exact List.prefix_append_right_inj _ |>.2 (List.IsPrefix.map _ (List.take_prefix _ _))
                rw [List.append_assoc]
                exact List.prefix_append_right_inj _ |>.2 (h9.trans (kds_pre F T HP2.out))
              obtain ⟨b2, o2, hu2, h2⟩ := (HIN.out.fresh HB2.out).one (by omega)
              rw [hu2]
              have c3 : wr.cell? ⟨b2, o2 + j, none⟩ = some (.int .i64 (T.getD j 0)) := h2 j hjl
              by_cases hfull : k2 = 96
              · have e4 : ((k2 : Int) == 96) = true := by simp [hfull]
                have e5 : decide ((k2 : Int) = 96) = true := decide_eq_true (by omega)
                have HE : Hid (L = B ++ kds F p T ++ (T.take j).map (fun t => (q, t))) := by
                  show _ = _
                  rw [← HG2.out]
                  exact gr_full HPR.out (by have := HK2.out; omega)
                have HR := hidd (HRT.out wr u2 k2 c2 _ HE.out HK2.out HO2.out HB2.out)
                clear HRT h2 hfull
                go_wp2
                go_ret
                exact HR.out
              · have e4 : ((k2 : Int) == 96) = false := by simp; omega
                have e5 : decide ((k2 : Int) = 96) = false := decide_eq_false (by omega)
                have HOa : Hid (Own wr w.heap.size 48 2 (.slice u2 k2 c2) k2 (rwF (B ++ kds F p T ++ (T.take (j + 1)).map (fun t => (q, t))))) := HO2.out.congr (fun x hx => rwF_pre (by rw [take_tok T q hjT, ← List.append_assoc]; exact List.prefix_append _ _) (by have := HK2.out; omega))
                have HX : Hid (∀ x, x < 1 * 2 → (wr.alloc (.cells #[.int .i64 q, .int .i64 (T.getD j 0)] 48)).cell? ⟨wr.heap.size, x, none⟩ = some (rwF (B ++ kds F p T ++ (T.take (j + 1)).map (fun t => (q, t))) (k2 * 2 + x))) := fun x hx => by
                  have := rw_cells wr (B ++ kds F p T ++ (T.take j).map (fun t => (q, t))) q (T.getD j 0) HK2.out x hx
                  rw [take_tok T q hjT, ← List.append_assoc]
                  exact this
                have HK3 : Hid (k2 + 1 = (B ++ kds F p T ++ (T.take (j + 1)).map (fun t => (q, t))).length) := by
                  show _ = _
                  rw [take_tok T q hjT, ← List.append_assoc, List.length_append, ← HK2.out]
                  rfl
                generalize T.getD j 0 = tt at c3 HX
                clear HO2 h2 hjT HPR
                go_wp2_with (at_builtin; refine wpList_app _ rfl _ _ 38 rfl w.heap.size 48 (.agg #[.int .i64 0, .int .i64 0]) 2 16 Try.underlying38 infoR rfl (by decide) _ k2 (rwF (B ++ kds F p T ++ (T.take (j + 1)).map (fun t => (q, t)))) rfl (HOa.out.kept (fresh_alloc _ _)) _ 1 1 rfl HX.out (fun j _ => rwF_one _ _) (by decide) (by unfold maxLen; omega) (by omega) (by simp; omega) ?_)
                intro v' w1 hown' happ
                have HF1 := hidd (happ.below (HB2.out.alloc hsz _) (HOa.out.kept (fresh_alloc _ _)) (Nat.le_refl _) (by simp; omega))
                obtain ⟨u9, c9, rfl, _⟩ := hown'.rd
                have HO1 := hidd hown'
                clear happ hown' HX HOa
                go_wp2
                go_roundw
                case rel => exact ⟨j + 1, k2 + 1, by omega, by go_num, by omega, HK3, ⟨u9, c9, rfl, (by have := HO1.out; show Own _ _ _ _ _ _ _; simpa using this)⟩, HF1⟩
                case measure => simp [intOf]; omega
            · obtain rfl : j = n := by omega
              have e2 : decide ((j : Int) < (j : Int)) = false := decide_eq_false (by omega)
              have HNX : Hid (B ++ kds F p T ++ (T.take j).map (fun t => (q, t)) = B ++ kds F (p + 1) T) := by
                show _ = _
                rw [List.take_of_length_le (by have := HN.out; omega), kds_succ, List.append_assoc]
                have e9 : (((F + p : Nat) : Int) - 1) = q := by have := HQ.out; omega
                rw [e9]
              rw [HNX.out] at HK2 HO2
              have g1 : IntKind.i64.wrap (q + 1) = q + 1 := wrap_small _ (by omega) (by omega)
              clear HNX
              go_wp2
              go_roundw
              case rel => exact ⟨p + 1, k2, q + 1, rfl, hk2, HP2, (by show _ = _; have := HQ.out; omega), HK2, ⟨u2, c2, rfl, HO2⟩, HB2⟩
              case measure => simp [intOf]; omega
        · have e1 : decide (q < (a : Int)) = false := decide_eq_false hpl
          have HPE : Hid (p = a + 1 - F) := by show _ = _; have := HQ.out; have := HP.out; have := HFa.out; omega
          rw [HPE.out] at HK HO1
          have HG3 : Hid (gr (((List.range m).map X).drop (i + 1)) (a + 1) (k + 1) (B ++ kds F (a + 1 - F) T) = L) := by
            show _ = _
            rw [← HG2.out, gr_fits (by rw [← HK.out]; exact hk), ← HK.out]
          have HKA : Hid (a + 1 ≤ k + 1) := by show _ ≤ _; have := HK.out; rw [List.length_append, ← HAB.out] at this; omega
          clear HP HQ HPE
          go_wp2
          go_roundw
          case rel => exact ⟨i + 1, a + 1, k, (a : Int), B ++ kds F (a + 1 - F) T, by omega, by go_num, rfl, rfl, hk, (by show _ = _; omega), HKA, HK, HG3, ⟨u1, c1', rfl, HO1⟩, HB1⟩
          case measure => simp [intOf]; omega
    · obtain rfl : i = m := by omega
      have d1 : decide ((i : Int) < (i : Int)) = false := decide_eq_false (by omega)
      have HE : Hid (L = B) := by
        show _ = _
        rw [← HG.out, List.drop_of_length_le (by simp)]
        rfl
      have HR := hidd (HRT.out wr u a c B HE.out HAB.out HO.out HB.out)
      clear HRT HE
      go_wp2
      go_ret
      exact HR.out
end Go.Proofs.Ytjjnfpeeipainaa
namespace Go.Proofs.Ytjjnfpeeipainaa
open Go.RowKit
/-! best. -/
theorem md_rda {w : World} {base : Nat} {e : TypeId} {sz n c : Nat} {u : Option Addr} {cs : Nat → Value} (h : Own w base e sz (.slice u n c) n cs) : RdA w u sz n c cs := by
  obtain ⟨ao, cap, e1, hr⟩ := h.rd
  injection e1 with e2 _ e3
  subst e2 e3
  exact hr
/-- the first tokens of an order -/
def tpL (S : (Nat → Int) → Nat → Nat → Nat) (f : Nat → Int) (R : Nat) (k : Int) : List Int := (List.range (min k.toNat R)).map (fun j => ((S f R j : Nat) : Int))
theorem tpL_len (S : (Nat → Int) → Nat → Nat → Nat) (f : Nat → Int) (R : Nat) (k : Int) : (tpL S f R k).length = min k.toNat R := by unfold tpL; simp
theorem tpL_at (S : (Nat → Int) → Nat → Nat → Nat) (f : Nat → Int) (R : Nat) (k : Int) {j : Nat} (h : j < min k.toNat R) : Value.int .i64 ((S f R j : Nat) : Int) = tkF (tpL S f R k) j := by
  unfold tkF tpL
  rw [List.getD_eq_getElem?_getD, List.getElem?_map, List.getElem?_range h]
  rfl
/-- what Top answers -/
def TopC (S : (Nat → Int) → Nat → Nat → Nat) : Prop := ∀ (w : World) (ao : Option Addr) (n cap : Nat) (f : Nat → Int), RdA w ao 1 n cap (fun i => .int .i64 (f i)) → n ≤ 17592186043904 → ∀ k : Int,
    Calls Try.prog 13 #[.slice ao n cap, .int .i64 k] w fun e w' => ∃ u c, e = .returned (.slice u (min k.toNat n) c) ∧ Own w' w.heap.size 3 1 (.slice u (min k.toNat n) c) (min k.toNat n) (fun j => .int .i64 ((S f n j : Nat) : Int)) ∧ Below w.heap.size w w'
theorem topC_tk {S : (Nat → Int) → Nat → Nat → Nat} (HT : TopC S) {w : World} {ao : Option Addr} {n cap : Nat} {f : Nat → Int} (h : RdA w ao 1 n cap (fun i => .int .i64 (f i))) (hn : n ≤ 17592186043904) (k : Int) :
    Calls Try.prog 13 #[.slice ao n cap, .int .i64 k] w fun e w' => ∃ u c, e = .returned (.slice u (tpL S f n k).length c) ∧ Own w' w.heap.size 3 1 (.slice u (tpL S f n k).length c) (tpL S f n k).length (tkF (tpL S f n k)) ∧ Below w.heap.size w w' := by
  refine (HT w ao n cap f h hn k).mono ?_
  rintro e w' ⟨u, c, rfl, ho, hb⟩
  rw [tpL_len]
  exact ⟨u, c, rfl, ho.congr (fun j hj => tpL_at S f n k (by omega)), hb⟩
theorem infoSI : (Try.prog.info? 37).map (fun i => (i.zero, i.size, i.bytes)) = some (some (.slice none 0 0), 1, 24) := by kernel_rfl
theorem run_make_toks (n : Nat) (hn : n ≤ 1048576) (w : World) : (Instr.makeSlice 52 (.int .i64 (n : Int)) (.int .i64 (n : Int))).run Try.prog w = .ok (.slice (some ⟨w.heap.size, 0, none⟩) n n) (w.alloc (.cells (madeCells #[.slice none 0 0] n) 37)) := by
  obtain ⟨i, hi, z0, z1, z2⟩ := info_parts infoSI
  have hr := run_make (P := Try.prog) w 52 37 i _ Try.underlying52 hi z0 .i64 .i64 n n (by omega) (Int.le_refl _) (by rw [z2]; omega) (by omega)
  simp only [Int.toNat_natCast, z1, Nat.mul_one] at hr
  exact hr
theorem madeS (w : World) (n : Nat) (t : TypeId) : (w.alloc (.cells (madeCells #[.slice none 0 0] n) t)).rowIs w.heap.size t n (fun _ => .slice none 0 0) :=
  ⟨_, Go.Deep.blk_alloc_new _ _, by rw [size_madeCells], fun i hi => by simp [madeCells, hi, Nat.mod_one]⟩
theorem min2n {a b m : Int} (h : m = min a b) (ats : Array TypeId) (ty : TypeId) (w : World) : (Builtin.min_ ats ty #[.int .i64 a, .int .i64 b]).run Try.prog w = .ok (.int .i64 m) w := by
  have : (Builtin.min_ ats ty #[.int .i64 a, .int .i64 b]).run Try.prog w = .ok (.int .i64 (if b < a then b else a)) w := by simp [Builtin.min_, Builtin.min2]
  rw [this]
  congr 2
  rw [h]
  split <;> omega
def updX {α : Type} (f : Nat → α) (k : Nat) (v : α) : Nat → α := fun j => if j = k then v else f j
theorem updX_at {α : Type} (f : Nat → α) (k : Nat) (v : α) : updX f k v k = v := if_pos rfl
theorem updX_ne {α : Type} (f : Nat → α) (k : Nat) (v : α) {j : Nat} (h : j ≠ k) : updX f k v j = f j := if_neg h
/-- the row of lists, the first k filled -/
def rowT (X : Nat → List Int) (A : Nat → Option Addr) (C : Nat → Nat) (k : Nat) : Nat → Value := fun j => if j < k then .slice (A j) (X j).length (C j) else .slice none 0 0
theorem rowT_next (X : Nat → List Int) (A : Nat → Option Addr) (C : Nat → Nat) (k : Nat) (u : Option Addr) (c : Nat) (j : Nat) : (if j = k then Value.slice u (X k).length c else rowT X A C k j) = rowT X (updX A k u) (updX C k c) (k + 1) j := by
  unfold rowT
  by_cases h1 : j = k
  · subst h1
    rw [if_pos rfl, if_pos (by omega), updX_at, updX_at]
  · rw [if_neg h1, updX_ne _ _ _ h1, updX_ne _ _ _ h1]
    by_cases h2 : j < k
    · rw [if_pos h2, if_pos (by omega)]
    · rw [if_neg h2, if_neg (by omega)]
structure BsR (w wr : World) (d : Nat) (X : Nat → List Int) (A : Nat → Option Addr) (C : Nat → Nat) (k : Nat) : Prop where
  row : wr.rowIs w.heap.size 37 d (rowT X A C k)
  inn : ∀ j, j < k → Own wr (w.heap.size + 1) 3 1 (.slice (A j) (X j).length (C j)) (X j).length (tkF (X j))
  low : Below w.heap.size w wr
theorem BsR.next {w wr w1 : World} {d : Nat} {X : Nat → List Int} {A : Nat → Option Addr} {C : Nat → Nat} {k : Nat} (h : BsR w wr d X A C k) (f : Below wr.heap.size wr w1) {u : Option Addr} {c : Nat} (ho : Own w1 wr.heap.size 3 1 (.slice u (X k).length c) (X k).length (tkF (X k))) :
    BsR w (w1.setCell ⟨w.heap.size, k, none⟩ (.slice u (X k).length c)) d X (updX A k u) (updX C k c) (k + 1) := by
  have hl := h.row.lt
  refine ⟨((row_fresh h.row f).set k (.slice u (X k).length c)).congr (fun j _ => rowT_next X A C k u c j), fun j hj => ?_, (fresh_trans h.low f).setCell (Nat.le_refl _) _⟩
  by_cases e : j = k
  · subst e
    rw [updX_at, updX_at]
    exact ownsRow_setCell_below (ho.weaken (by omega)) (a := ⟨w.heap.size, j, none⟩) (by show w.heap.size < _; omega) _
  · rw [updX_ne _ _ _ e, updX_ne _ _ _ e]
    exact ownsRow_setCell_below ((h.inn j (by omega)).kept f) (a := ⟨w.heap.size, k, none⟩) (by show w.heap.size < _; omega) _
set_option maxRecDepth 20000 in
set_option maxHeartbeats 3200000 in
theorem best_any {S : (Nat → Int) → Nat → Nat → Nat} (HT : TopC S) {w : World} {go wo : Option Addr} {G gc n wc R d : Nat} {bb : Nat → Nat} {Fs : Nat → Nat → Int} {ws : Nat → Int} (hd : d = min G n) (hg : RdA w go 1 G gc (fun j => .slice (some ⟨bb j, 0, none⟩) R R)) (hr : ∀ j, j < G → RdA w (some ⟨bb j, 0, none⟩) 1 R R (fun r => .int .i64 (Fs j r))) (hw : RdA w wo 1 n wc (fun i => .int .i64 (ws i))) (hR : R ≤ 1048576) (hG : G ≤ 1048576) :
    Calls Try.prog 31 #[.slice go G gc, .slice wo n wc] w fun e w' => ∃ A C, e = .returned (.slice (some ⟨w.heap.size, 0, none⟩) d d) ∧ Tk w' (some ⟨w.heap.size, 0, none⟩) d d (fun i => tpL S (Fs i) R (ws i)) A C ∧ Below w.heap.size w w' := by
  have hmin := min2n (a := (G : Int)) (b := (n : Int)) (m := (d : Int)) (by omega)
  have hdG : d ≤ G := by omega
  have hdn : d ≤ n := by omega
  have hmk := run_make_toks d (by omega)
  have HG := hidd hg
  have HR := hidd hr
  have HW := hidd hw
  obtain ⟨X, hX⟩ : ∃ X : Nat → List Int, X = fun i => tpL S (Fs i) R (ws i) := ⟨_, rfl⟩
  have HX := hidd hX
  have HB0 : Hid (BsR w (w.alloc (.cells (madeCells #[.slice none 0 0] d) 37)) d X (fun _ => none) (fun _ => 0) 0) := ⟨(madeS w d 37).congr (fun j _ => by unfold rowT; rw [if_neg (by omega)]), fun j hj => absurd hj (by omega), fresh_alloc _ _⟩
  have hgl := hg.le
  have hgt := hg.top
  have hwl := hw.le
  have hwt := hw.top
  unfold maxLen at hgt hwt
  have HFIN : Hid (∀ wr A C, BsR w wr d X A C d → ∃ A C, Ending.returned (.slice (some ⟨w.heap.size, 0, none⟩) d d) = .returned (.slice (some ⟨w.heap.size, 0, none⟩) d d) ∧ Tk wr (some ⟨w.heap.size, 0, none⟩) d d (fun i => tpL S (Fs i) R (ws i)) A C ∧ Below w.heap.size w wr) := by
    intro wr A C h
    rw [HX.out] at h
    exact ⟨A, C, rfl, ⟨(rowIs_rd h.row (by unfold maxLen; omega)).congr (fun j hj => if_pos (by omega)), fun i hi => md_rda (h.inn i hi)⟩, h.low⟩
  clear hg hr hw hX hd
  go_enter Try.func31, Try.ntmps31
  go_wp2
  go_loopw [17] (fun vi wr => ∃ (k : Nat) (A : Nat → Option Addr) (C : Nat → Nat), k ≤ d ∧ vi = .int .i64 (k : Int) ∧ Hid (BsR w wr d X A C k)) (fun vi _ => d - (intOf vi).toNat)
  case atStart => exact ⟨0, _, _, by omega, rfl, HB0⟩
  case round =>
    obtain ⟨k, A, C, hk, rfl, HS⟩ := hrel
    by_cases hlt : k < d
    · obtain ⟨gb, gf, eg, h1⟩ := (HG.out.fresh HS.out.low).one (by omega)
      obtain ⟨wb, wf, ew, h2⟩ := (HW.out.fresh HS.out.low).one (by omega)
      subst eg ew
      have c1 : wr.cell? ⟨gb, gf + k, none⟩ = some (.slice (some ⟨bb k, 0, none⟩) R R) := h1 k (by omega)
      have c2 : wr.cell? ⟨wb, wf + k, none⟩ = some (.int .i64 (ws k)) := h2 k (by omega)
      have hgb : gb ≠ w.heap.size := by
        obtain ⟨b', o', e', hc'⟩ := HG.out.one (by omega)
        cases e'
        have := lt_of_cell (hc' k (by omega)); omega
      have hwb : wb ≠ w.heap.size := by
        obtain ⟨b', o', e', hc'⟩ := HW.out.one (by omega)
        cases e'
        have := lt_of_cell (hc' k (by omega)); omega
      have i0 : (0 : Int) ≤ (k : Int) := by omega
      have i1 : (k : Int) < (G : Int) := by omega
      have i2 : (k : Int) < (n : Int) := by omega
      have i3 : (k : Int) < (d : Int) := by omega
      obtain ⟨m, HM⟩ : ∃ m, Hid (m = (X k).length) := ⟨_, rfl⟩
      have HTC : Hid (Calls Try.prog 13 #[.slice (some ⟨bb k, 0, none⟩) R R, .int .i64 (ws k)] wr.drew fun e w1 => ∃ u c, e = .returned (.slice u m c) ∧ w1.cell? ⟨gb, gf + k, none⟩ = some (.slice (some ⟨bb k, 0, none⟩) R R) ∧ w1.cell? ⟨wb, wf + k, none⟩ = some (.int .i64 (ws k)) ∧ (∃ v, w1.cell? ⟨w.heap.size, k, none⟩ = some v) ∧ w1.frozen? ⟨w.heap.size, k, none⟩ = false ∧ (∀ x, (w1.setCell ⟨w.heap.size, k, none⟩ x).cell? ⟨gb, gf + k, none⟩ = some (.slice (some ⟨bb k, 0, none⟩) R R)) ∧ (∀ x, (w1.setCell ⟨w.heap.size, k, none⟩ x).cell? ⟨wb, wf + k, none⟩ = some (.int .i64 (ws k))) ∧ Hid (BsR w (w1.setCell ⟨w.heap.size, k, none⟩ (.slice u m c)) d X (updX A k u) (updX C k c) (k + 1))) := by
        have fd : Below wr.heap.size wr wr.drew := (Below.refl _ _).drew
        refine (topC_tk HT ((HR.out k (by omega)).fresh (fresh_trans HS.out.low fd)) (by omega) (ws k)).mono ?_
        rintro e w1 ⟨u, c, rfl, ho, f1⟩
        have eX : tpL S (Fs k) R (ws k) = X k := by rw [HX.out]
        rw [eX] at ho ⊢
        have f2 := fresh_trans fd f1
        have hrow := row_fresh HS.out.row f2
        refine ⟨u, c, by rw [HM.out], fresh_cell f2 c1, fresh_cell f2 c2, ⟨_, hrow.cell (i := k) hlt⟩, hrow.frozen k, fun x => ?_, fun x => ?_, ?_⟩
        · rw [World.cell?_setCell_other _ _ _ _ (fun q => by have := congrArg Addr.block q; simp at this; omega)]; exact fresh_cell f2 c1
        · rw [World.cell?_setCell_other _ _ _ _ (fun q => by have := congrArg Addr.block q; simp at this; omega)]; exact fresh_cell f2 c2
        · show BsR _ _ _ _ _ _ _
          rw [HM.out]
          exact HS.out.next f2 ho
      clear h1 h2 hgb hwb HS
      go_wp2
      go_region_held3 (fun z => z.cell? ⟨gb, gf + k, none⟩ = some (.slice (some ⟨bb k, 0, none⟩) R R) ∧ z.cell? ⟨wb, wf + k, none⟩ = some (.int .i64 (ws k)))
        (first | (with_reducible exact ⟨c1, c2⟩) | (with_reducible exact ⟨k1, k2⟩) | exact ⟨k5 _, k6 _⟩ | go_keep)
        (first | (go_at_call 13; with_reducible refine HTC.out.mono ?_; rintro e w1 ⟨u, c, rfl, k1, k2, ⟨v3, k3⟩, k4, k5, k6, HN⟩))
      all_goals
        go_wp2
        go_roundw
        case rel => exact ⟨k + 1, _, _, by omega, by go_num, HN⟩
        case measure => simp [intOf]; omega
    · obtain rfl : k = d := by omega
      have hnl : ¬ ((k : Int) < (k : Int)) := by omega
      have HE := hidd (HFIN.out wr A C HS.out)
      clear HFIN
      go_wp2
      go_ret
      exact ⟨rfl, (by obtain ⟨A, C, _, h1, _⟩ := HE.out; exact ⟨A, C, h1⟩), (by obtain ⟨A, C, _, _, h2⟩ := HE.out; exact h2)⟩
end Go.Proofs.Ytjjnfpeeipainaa
