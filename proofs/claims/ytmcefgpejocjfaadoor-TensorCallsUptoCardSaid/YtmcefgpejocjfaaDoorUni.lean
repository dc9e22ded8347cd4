import Derived.Test.YtmcefgpejocjfaaDoorOpd
import Derived.Test.YtmcefgpejocjfaaDoorNar
import Derived.Test.YtmcefgpejocjfaaDoorNarRef
import Derived.Test.YtmcefgpejocjfaaDoorDotRef
import Derived.Test.YtmcefgpejocjfaaDoorNrmRef
import Derived.Test.YtmcefgpejocjfaaDoorBldRefs
import Derived.Test.YtmcefgpejocjfaaDoorMatRefs
import Derived.Test.YtmcefgpejocjfaaDoorSfmRef
import Derived.Test.YtmcefgpejocjfaaDoorRotRef
import Derived.Test.YtmcefgpejocjfaaDoorTnsRef
namespace Go.Proofs.YtmcefgpejocjfaaDoor
open Go.RowKit
/-! Each call and the document's answer to it: one list, one error. -/
def Ans (f : FuncId) (args : Array Value) (w : World) (kd : IntKind) (k : Nat) (er : Int) (F : Nat → Int) : Prop :=
  Calls Tryd.prog f args w fun e w' => ∃ ao cap, e = .returned (.tuple #[.slice ao k cap, .int .i64 er]) ∧ RdA w' ao 1 k cap (fun j => .int kd (F j)) ∧ Below w.heap.size w w'
theorem rdn (w : World) (cs : Nat → Value) : RdA w none 1 0 0 cs := ⟨Nat.le_refl _, Nat.zero_le _, fun h => absurd h (by omega)⟩
theorem ans_row {f : FuncId} {args : Array Value} {w : World} {kd : IntKind} {n : Nat} {s : Int} {G : Nat → Int} {t : TypeId} (hn : n ≤ 9223372036854775807)
    (h : Calls Tryd.prog f args w fun e w' => ∃ b F, e = .returned (.tuple #[.slice (some ⟨b, 0, none⟩) n n, .int .i64 s]) ∧ w.heap.size ≤ b ∧ w'.rowIs b t n F ∧ (∀ j, j < n → F j = .int kd (G j)) ∧ Below w.heap.size w w') : Ans f args w kd n s G :=
  h.mono fun _ _ ⟨b, _, he, _, hr, hF, hf⟩ => ⟨some ⟨b, 0, none⟩, n, he, (rowIs_rd hr (by unfold maxLen; omega)).congr (fun j hj => hF j (by omega)), hf⟩
theorem ans_own {f : FuncId} {args : Array Value} {w : World} {kd : IntKind} {n : Nat} {s : Int} {G : Nat → Int} {t : TypeId} {base : Nat}
    (h : Calls Tryd.prog f args w fun e w' => ∃ v, e = .returned (.tuple #[v, .int .i64 s]) ∧ Own w' base t 1 v n (fun j => .int kd (G j)) ∧ Below w.heap.size w w') : Ans f args w kd n s G :=
  h.mono fun _ _ ⟨_, he, ho, hf⟩ => by
    obtain ⟨ao, cap, rfl, hr⟩ := ho.rd'
    exact ⟨ao, cap, he, hr, hf⟩
theorem ans_nil {f : FuncId} {args : Array Value} {w : World} {kd : IntKind} {s : Int} {G : Nat → Int}
    (h : Calls Tryd.prog f args w fun e w' => e = .returned (.tuple #[.slice none 0 0, .int .i64 s]) ∧ Below w.heap.size w w') : Ans f args w kd 0 s G :=
  h.mono fun _ _ ⟨he, hf⟩ => ⟨none, 0, he, rdn _ _, hf⟩
theorem ans_nil' {f : FuncId} {args : Array Value} {w : World} {kd : IntKind} {s : Int} {G : Nat → Int}
    (h : Calls Tryd.prog f args w fun e w' => e = .returned (.tuple #[.slice none 0 0, .int .i64 s]) ∧ w' = w) : Ans f args w kd 0 s G :=
  h.mono fun _ _ ⟨he, hf⟩ => ⟨none, 0, he, rdn _ _, hf ▸ Below.refl _ _⟩
theorem check_uni (R C : Int) (n : Nat) (f : Nat → Int) (hn : n ≤ 1048576) (bf : ∀ i, i < n → -128 ≤ f i ∧ f i ≤ 127) :
    ∃ er : Int, (∀ w ao cap, RdA w ao 1 n cap (fun i => .int .i8 (f i)) → Calls Tryd.prog 43 #[.agg #[.int .i64 R, .int .i64 C, .slice ao n cap]] w fun e w' => e = .returned (.int .i64 er) ∧ Below w.heap.size w w') ∧
      (∀ w ao cap, RdA w ao 1 n cap (fun i => .int .i8 (f i)) → Calls Tryd.prog 45 #[.agg #[.int .i64 R, .int .i64 C, .slice ao n cap]] w fun e w' => e = .returned (.int .i64 er) ∧ Below w.heap.size w w') := by
  cases hs : shp R C n with
  | false => exact ⟨30, fun w ao cap h => check_bad h (.inl hs), fun w ao cap _ => check_rshape (by omega) hs⟩
  | true =>
    by_cases hd : ∀ i, i < n → -127 ≤ f i
    · exact ⟨0, fun w ao cap h => check_ok h hs hd, fun w ao cap h => check_rdata h hs bf true ⟨fun _ => hd, fun _ => rfl⟩⟩
    · have hd' : ∃ i, i < n ∧ f i < -127 := by
        by_cases h : ∃ i, i < n ∧ f i < -127
        · exact h
        · exact absurd (fun i hi => by
            by_cases h2 : f i < -127
            · exact absurd ⟨i, hi, h2⟩ h
            · omega) hd
      exact ⟨30, fun w ao cap h => check_bad h (.inr hd'), fun w ao cap h => check_rdata h hs bf false ⟨fun h => by simp at h, fun h => absurd h hd⟩⟩
theorem matvec_uni (R C : Int) (n m : Nat) (f g : Nat → Int) (hn : n ≤ 1048576) (bf : ∀ i, i < n → -128 ≤ f i ∧ f i ≤ 127) (bg : ∀ i, i < m → -128 ≤ g i ∧ g i ≤ 127) :
    ∃ (k : Nat) (er : Int) (F : Nat → Int), (∀ w ao ca bo cb, RdA w ao 1 n ca (fun i => .int .i8 (f i)) → RdA w bo 1 m cb (fun i => .int .i8 (g i)) → Ans 15 #[.agg #[.int .i64 R, .int .i64 C, .slice ao n ca], .slice bo m cb] w .i64 k er F) ∧
      (∀ w ao ca bo cb, RdA w ao 1 n ca (fun i => .int .i8 (f i)) → RdA w bo 1 m cb (fun i => .int .i8 (g i)) → Ans 46 #[.agg #[.int .i64 R, .int .i64 C, .slice ao n ca], .slice bo m cb] w .i64 k er F) := by
  by_cases hd : ∃ i, i < n ∧ f i < -127
  · exact ⟨0, 30, fun _ => 0, fun w ao ca bo cb h _ => ans_nil (matvec_bad h (.inr (.inr hd))), fun w ao ca bo cb h _ => ans_nil (matvec_rbad h bf (.inr (.inl hd)))⟩
  cases hs : shp R C n with
  | false => exact ⟨0, 30, fun _ => 0, fun w ao ca bo cb h _ => ans_nil (matvec_bad h (.inr (.inl hs))), fun w ao ca bo cb h _ => ans_nil (matvec_rbad h bf (.inl hs))⟩
  | true =>
    by_cases hm : (m : Int) = C
    · have hp := shp_parts hs
      obtain ⟨r, rfl⟩ := Int.eq_ofNat_of_zero_le (show 0 ≤ R by omega)
      subst hm
      have hq := shp_mul hs
      have hr : r ≤ n := by rw [hq.2.2]; exact Nat.le_mul_of_pos_right _ hq.2.1
      have hf : ∀ i, i < n → -127 ≤ f i ∧ f i ≤ 127 := fun i hi => by
        have := bf i hi
        by_cases h2 : f i < -127
        · exact absurd ⟨i, hi, h2⟩ hd
        · omega
      exact ⟨r, 0, mv f g m, fun w ao ca bo cb h k => ans_row (by omega) (matvec_ok h k hs hf bg (by omega)), fun w ao ca bo cb h k => ans_own (matvec_rok h k hs hf bg (by omega))⟩
    · exact ⟨0, 30, fun _ => 0, fun w ao ca bo cb h _ => ans_nil (matvec_bad h (.inl hm)), fun w ao ca bo cb h _ => ans_nil (matvec_rbad h bf (.inr (.inr hm)))⟩
theorem narrow_uni (n : Nat) (f : Nat → Int) (s : Int) (hn : n ≤ 1048576) (bf : ∀ i, i < n → -9223372036854775808 ≤ f i ∧ f i ≤ 9223372036854775807) :
    ∃ (k : Nat) (er : Int) (F : Nat → Int), (∀ w ao ca, RdA w ao 1 n ca (fun i => .int .i64 (f i)) → Ans 22 #[.slice ao n ca, .int .i64 s] w .i8 k er F) ∧
      (∀ w ao ca, RdA w ao 1 n ca (fun i => .int .i64 (f i)) → Ans 47 #[.slice ao n ca, .int .i64 s] w .i8 k er F) := by
  by_cases h : s < 0 ∨ 24 < s
  · exact ⟨0, 1, fun _ => 0, fun w ao ca _ => ans_nil' (narrow_bad s h), fun w ao ca _ => ans_nil' (narrow_rbad s h)⟩
  · exact ⟨n, 0, nar f s, fun w ao ca k => ans_row (by omega) (narrow_ok k s (by omega) (by omega) bf (by omega)), fun w ao ca k => ans_own (narrow_rok k s (by omega) (by omega) bf (by omega))⟩
theorem norm_uni (n m : Nat) (f g : Nat → Int) (hn : n ≤ 1048576) (bf : ∀ i, i < n → -9223372036854775808 ≤ f i ∧ f i ≤ 9223372036854775807) (bg : ∀ i, i < m → -128 ≤ g i ∧ g i ≤ 127) :
    ∃ (k : Nat) (er : Int) (F : Nat → Int), (∀ w ao ca bo cb, RdA w ao 1 n ca (fun i => .int .i64 (f i)) → RdA w bo 1 m cb (fun i => .int .i8 (g i)) → Ans 24 #[.slice ao n ca, .slice bo m cb] w .i8 k er F) ∧
      (∀ w ao ca bo cb, RdA w ao 1 n ca (fun i => .int .i64 (f i)) → RdA w bo 1 m cb (fun i => .int .i8 (g i)) → Ans 48 #[.slice ao n ca, .slice bo m cb] w .i8 k er F) := by
  by_cases h : n = 0 ∨ n ≠ m
  · exact ⟨0, 30, fun _ => 0, fun w ao ca bo cb _ _ => ans_nil' (norm_bad h), fun w ao ca bo cb _ _ => ans_nil' (norm_rbad h)⟩
  · obtain rfl : n = m := by omega
    exact ⟨n, 0, nrm f g n, fun w ao ca bo cb k k2 => ans_row (by omega) (norm_ok k k2 bf bg (by omega) (by omega)), fun w ao ca bo cb k k2 => ans_own (norm_rok k k2 bf bg (by omega) (by omega))⟩
theorem dot_uni (n m : Nat) (f g : Nat → Int) (bf : ∀ i, i < n → -128 ≤ f i ∧ f i ≤ 127) (bg : ∀ i, i < m → -128 ≤ g i ∧ g i ≤ 127) :
    ∃ (p er : Int), (∀ w ao ca bo cb, RdA w ao 1 n ca (fun i => .int .i8 (f i)) → RdA w bo 1 m cb (fun i => .int .i8 (g i)) → Calls Tryd.prog 49 #[.slice ao n ca, .slice bo m cb] w fun e w' => e = .returned (.tuple #[.int .i64 p, .int .i64 er]) ∧ Below w.heap.size w w') ∧
      (∀ w ao ca bo cb, RdA w ao 1 n ca (fun i => .int .i8 (f i)) → RdA w bo 1 m cb (fun i => .int .i8 (g i)) → Calls Tryd.prog 50 #[.slice ao n ca, .slice bo m cb] w fun e w' => e = .returned (.tuple #[.int .i64 p, .int .i64 er]) ∧ Below w.heap.size w w') := by
  by_cases h : n = m
  · subst h
    exact ⟨dot f g n, 0, fun w ao ca bo cb k k2 => (dot_ok k k2 bf bg).mono fun _ _ ⟨he, hw⟩ => ⟨he, hw ▸ Below.refl _ _⟩, fun w ao ca bo cb k k2 => dot_rok k k2 bf bg⟩
  · exact ⟨0, 30, fun w ao ca bo cb _ _ => (dot_bad h).mono fun _ _ ⟨he, hw⟩ => ⟨he, hw ▸ Below.refl _ _⟩, fun w ao ca bo cb _ _ => (dot_rbad h).mono fun _ _ ⟨he, hw⟩ => ⟨he, hw ▸ Below.refl _ _⟩⟩
theorem softmax_uni (n : Nat) (f : Nat → Int) (hn : n ≤ 1048576) (bf : ∀ i, i < n → -9223372036854775808 ≤ f i ∧ f i ≤ 9223372036854775807) :
    ∃ (k : Nat) (er : Int) (F : Nat → Int), (∀ w ao ca, Holds w → RdA w ao 1 n ca (fun i => .int .i64 (f i)) → Ans 25 #[.slice ao n ca] w .i64 k er F) ∧
      (∀ w ao ca, RdA w ao 1 n ca (fun i => .int .i64 (f i)) → Ans 51 #[.slice ao n ca] w .i64 k er F) := by
  by_cases h : n = 0
  · subst h
    exact ⟨0, 0, fun _ => 0, fun w ao ca _ _ => ans_nil' softmax_none, fun w ao ca _ => ans_nil' softmax_rnone⟩
  · exact ⟨n, tot (sw f n) n, sw f n, fun w ao ca hw k => ans_row (by omega) (softmax_ok hw k bf (by omega) (by omega)), fun w ao ca k => ans_own (softmax_rok k bf (by omega) (by omega))⟩
theorem blend_uni (n m : Nat) (f : Nat → Int) (L : Nat → Nat) (X : Nat → Nat → Int) (hn : n ≤ 1048576) (hL : ∀ i, i < m → L i ≤ 1048576) (bf : ∀ i, i < n → -9223372036854775808 ≤ f i ∧ f i ≤ 9223372036854775807) (bX : ∀ i j, i < m → j < L i → -128 ≤ X i j ∧ X i j ≤ 127) :
    ∃ (k : Nat) (er : Int) (F : Nat → Int), (∀ w ao ca vo cv A K, RdA w ao 1 n ca (fun i => .int .i64 (f i)) → Vs w vo m cv A L K X → Ans 26 #[.slice ao n ca, .slice vo m cv] w .i8 k er F) ∧
      (∀ w ao ca vo cv A K, RdA w ao 1 n ca (fun i => .int .i64 (f i)) → Vs w vo m cv A L K X → Ans 52 #[.slice ao n ca, .slice vo m cv] w .i8 k er F) := by
  by_cases h : n = 0 ∨ n ≠ m ∨ ¬ Fit f n L
  · exact ⟨0, 30, fun _ => 0, fun w ao ca vo cv A K k k2 => ans_nil' (blend_bad k k2 h), fun w ao ca vo cv A K k k2 => ans_nil (blend_rbad k k2 h bf)⟩
  · have hf : Fit f n L := by
      by_cases hF : Fit f n L
      · exact hF
      · exact absurd (.inr (.inr hF)) h
    obtain rfl : n = m := by
      by_cases e : n = m
      · exact e
      · exact absurd (.inr (.inl e)) h
    have hl := hL 0 hf.pos
    have bX' : ∀ i j, i < n → j < L 0 → -128 ≤ X i j ∧ X i j ≤ 127 := fun i j hi hj => bX i j hi (by rw [hf.len i hi]; exact hj)
    exact ⟨L 0, 0, bln f X n, fun w ao ca vo cv A K k k2 => ans_row (by omega) (blend_ok k k2 hf bf bX' (by omega) (by omega)), fun w ao ca vo cv A K k k2 => ans_own (blend_rok k k2 hf bf bX' (by omega))⟩
theorem rotate_uni (m n : Nat) (f C S : Nat → Int) (hm : m ≤ 1048576) (hn : n ≤ 1048576) (bf : ∀ i, i < m → -128 ≤ f i ∧ f i ≤ 127) :
    ∃ (k : Nat) (er : Int) (F : Nat → Int), (∀ w ao ca bo cb, RdA w ao 1 m ca (fun i => .int .i8 (f i)) → RdA w bo 2 n cb (tcs C S) → Ans 29 #[.slice ao m ca, .slice bo n cb] w .i8 k er F) ∧
      (∀ w ao ca bo cb, RdA w ao 1 m ca (fun i => .int .i8 (f i)) → RdA w bo 2 n cb (tcs C S) → Ans 54 #[.slice ao m ca, .slice bo n cb] w .i8 k er F) := by
  by_cases h : m = 2 * n
  · refine ⟨m, 0, rtv f C S, fun w ao ca bo cb k k2 => ?_, fun w ao ca bo cb k k2 => ans_own (rotate_rok k k2 bf h (by omega))⟩
    refine (rotate_ok k k2 bf h (by omega)).mono fun e w' ⟨b, F, he, _, hr, hF, hf⟩ => ⟨some ⟨b, 0, none⟩, m, he, (rowIs_rd hr (by unfold maxLen; omega)).congr (fun j hj => ?_), hf⟩
    obtain ⟨i, rfl | rfl⟩ : ∃ i, j = 2 * i ∨ j = 2 * i + 1 := ⟨j / 2, by omega⟩
    · rw [rtv0]; exact (hF i (by omega)).1
    · rw [rtv1]; exact (hF i (by omega)).2
  · exact ⟨0, 30, fun _ => 0, fun w ao ca bo cb _ _ => ans_nil' (rotate_bad h (by omega)), fun w ao ca bo cb _ _ => ans_nil' (rotate_rbad h (by omega))⟩
/-- a table of turns -/
structure Tb (w : World) (ao : Option Addr) (n cap : Nat) (A : Nat → Option Addr) (K : Nat → Nat) (m : Nat) (C S : Nat → Nat → Int) : Prop where
  top : RdA w ao 1 n cap (fun p => .slice (A p) m (K p))
  row : ∀ p, p < n → RdA w (A p) 2 m (K p) (tcs (C p) (S p))
theorem Tb.fresh {w w' : World} {ao : Option Addr} {n cap : Nat} {A : Nat → Option Addr} {K : Nat → Nat} {m : Nat} {C S : Nat → Nat → Int} (h : Tb w ao n cap A K m C S) (f : Below w.heap.size w w') : Tb w' ao n cap A K m C S :=
  ⟨h.top.fresh f, fun p hp => (h.row p hp).fresh f⟩
def AnsT (f : FuncId) (args : Array Value) (w : World) (k : Nat) (er : Int) (m : Nat) (C S : Nat → Nat → Int) : Prop :=
  Calls Tryd.prog f args w fun e w' => ∃ ao cap A K, e = .returned (.tuple #[.slice ao k cap, .int .i64 er]) ∧ Tb w' ao k cap A K m C S ∧ Below w.heap.size w w'
theorem anst_nil {f : FuncId} {args : Array Value} {w : World} {s : Int} {m : Nat} {C S : Nat → Nat → Int}
    (h : Calls Tryd.prog f args w fun e w' => e = .returned (.tuple #[.slice none 0 0, .int .i64 s]) ∧ Below w.heap.size w w') : AnsT f args w 0 s m C S :=
  h.mono fun _ _ ⟨he, hf⟩ => ⟨none, 0, fun _ => none, fun _ => 0, he, ⟨rdn _ _, fun p hp => absurd hp (by omega)⟩, hf⟩
theorem anst_nil' {f : FuncId} {args : Array Value} {w : World} {s : Int} {m : Nat} {C S : Nat → Nat → Int}
    (h : Calls Tryd.prog f args w fun e w' => e = .returned (.tuple #[.slice none 0 0, .int .i64 s]) ∧ w' = w) : AnsT f args w 0 s m C S :=
  anst_nil (h.mono fun _ _ ⟨he, hw⟩ => ⟨he, hw ▸ Below.refl _ _⟩)
theorem TR.tb {w : World} {base n : Nat} {C S : Nat → Int} {v : Value} {N : Nat} {row : Nat → Value} (h : TR w base n C S v N row) : ∃ ao cap A K, v = .slice ao N cap ∧ Tb w ao N cap A K n (tC C S) (tS C S) := by
  obtain ⟨ao, cap, rfl, hr⟩ := h.top.rd'
  have key : ∀ q, ∃ y : Option Addr × Nat, q < N → row q = .slice y.1 n y.2 ∧ RdA w y.1 2 n y.2 (tcs (tC C S q) (tS C S q)) := fun q => by
    by_cases hq : q < N
    · obtain ⟨a, c, e, r⟩ := (h.rows q hq).rd'
      exact ⟨(a, c), fun _ => ⟨e, r⟩⟩
    · exact ⟨(none, 0), fun h => absurd h hq⟩
  obtain ⟨y, hy⟩ := Classical.axiomOfChoice key
  exact ⟨ao, cap, fun q => (y q).1, fun q => (y q).2, rfl, hr.congr (fun j hj => (hy j (by omega)).1), fun p hp => (hy p hp).2⟩
theorem turns_uni (n : Nat) (C S : Nat → Int) (N : Int) (hn : n ≤ 1048576) :
    ∃ (k : Nat) (er : Int), (∀ w ao ca, RdA w ao 2 n ca (tcs C S) → AnsT 27 #[.slice ao n ca, .int .i64 N] w k er n (tC C S) (tS C S)) ∧
      (∀ w ao ca, RdA w ao 2 n ca (tcs C S) → AnsT 53 #[.slice ao n ca, .int .i64 N] w k er n (tC C S) (tS C S)) := by
  by_cases h : N < 0 ∨ 64 < N
  · exact ⟨0, 1, fun w ao ca _ => anst_nil' (turns_arg N h), fun w ao ca _ => anst_nil' (turns_rarg N h)⟩
  · obtain ⟨M, rfl⟩ := Int.eq_ofNat_of_zero_le (show 0 ≤ N by omega)
    by_cases hb : ∀ i, i < n → OkT C S i
    · refine ⟨M, 0, fun w ao ca k => ?_, fun w ao ca k => ?_⟩
      · refine (turns_ok k (fun i hi => (hb i hi).1) (fun i hi => (hb i hi).2) (by omega) (by omega)).mono fun e w' ⟨g, h, F, he, _, hr, hF, _, hf⟩ => ⟨some ⟨g, 0, none⟩, M, fun p => some ⟨h p, 0, none⟩, fun _ => n, he, ⟨(rowIs_rd hr (by unfold maxLen; omega)).congr (fun j hj => (hF j (by omega)).1), fun p hp => ?_⟩, hf⟩
        have hr2 := (hF p hp).2.2
        exact ⟨Nat.le_refl _, by unfold maxLen; omega, fun _ => ⟨h p, 0, rfl, fun j hj => by simpa using hr2.cell (i := j) hj⟩⟩
      · refine (turns_rok k hb (by omega) (by omega)).mono fun e w' ⟨v, row, he, hT, hf⟩ => ?_
        obtain ⟨ao', cap, A, K, rfl, ht⟩ := hT.tb
        exact ⟨ao', cap, A, K, he, ht, hf⟩
    · exact ⟨0, 30, fun w ao ca k => anst_nil (turns_shape k (by omega) hb), fun w ao ca k => anst_nil (turns_rshape k (by omega) hb)⟩
set_option maxHeartbeats 1000000 in
theorem eqTables_same {w : World} {ao bo : Option Addr} {n ca cb : Nat} {A B : Nat → Option Addr} {Ka Kb : Nat → Nat} {m : Nat} {C S : Nat → Nat → Int} (ha : Tb w ao n ca A Ka m C S) (hb : Tb w bo n cb B Kb m C S) :
    Calls Tryd.prog 38 #[.slice ao n ca, .slice bo n cb] w fun e w' => e = .returned (.bool true) ∧ Below w.heap.size w w' := by
  have hn : n ≤ 9223372036854775807 := by have := ha.top.le; have := ha.top.top; unfold maxLen at this; omega
  have hne : ((n : Int) != (n : Int)) = false := by simp
  go_enter Tryd.func38, Tryd.ntmps38
  go_wp2
  clear hne
  go_loopw [5] (fun i wr => ∃ k : Nat, k ≤ n ∧ i = .int .i64 k ∧ Below w.heap.size w wr) (fun i _ => n - (intOf i).toNat)
  case atStart => exact ⟨0, by omega, rfl, Below.refl _ _⟩
  case round =>
    obtain ⟨k, hk, rfl, hf⟩ := hrel
    by_cases hlt : k < n
    · obtain ⟨b1, o1, rfl, h1⟩ := (ha.top.fresh hf).one (by omega)
      obtain ⟨b2, o2, rfl, h2⟩ := (hb.top.fresh hf).one (by omega)
      have c1 := h1 k hlt
      have c2 := h2 k hlt
      have r1 := (ha.row k hlt).fresh hf
      have r2 := (hb.row k hlt).fresh hf
      clear h1 h2
      go_wp2
      replace c1 := later_cell c1; replace c2 := later_cell c2
      have ne := later_some wr
      refine wp_region_later (by kernel_rfl) (by kernel_rfl) ?_
      repeat (go_big_quiet_step (exact later_of (eqTurns_same (r1.fresh (Later.fresh _)) (r2.fresh (Later.fresh _)) (fun _ _ => rfl) (fun _ _ => rfl))))
      refine wpQuiet_nil ?_
      rintro _ ⟨z, rfl⟩
      have hf2 := fresh_trans hf z.fresh
      clear c1 c2 hf ne r1 r2
      go_wp2
      go_roundw
      case rel => exact ⟨k + 1, by omega, by go_num, hf2⟩
      case measure => simp [intOf]; omega
    · go_wp2
      go_ret
      exact ⟨rfl, hf⟩
end Go.Proofs.YtmcefgpejocjfaaDoor
