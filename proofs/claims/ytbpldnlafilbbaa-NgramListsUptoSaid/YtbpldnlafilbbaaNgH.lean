import Derived.RangeFuncNested
import Derived.RangeFuncLeaves
import Derived.Shelf.Abstract
import Derived.OwnWalkIn
import Derived.TacticsInMore
import Derived.LoopNIn
import Derived.LoopIn
import Derived.RegionIn
import Derived.Test.YtbpldnlafilbbaaNgG
namespace Go.Proofs.Ytbpldnlafilbbaa
open Go.RowKit Go.Shelf
attribute [local go_sem] Oper.semAt_some
/-! Places: the iterator. -/
open Classical in
noncomputable def dwn (P : Nat → Prop) : Nat → List Nat
  | 0 => []
  | n + 1 => if P (n + 1) then (n + 1) :: dwn P n else dwn P n
theorem dwn_yes {P : Nat → Prop} {n : Nat} (h : P (n + 1)) : dwn P (n + 1) = (n + 1) :: dwn P n := if_pos h
theorem dwn_no {P : Nat → Prop} {n : Nat} (h : ¬ P (n + 1)) : dwn P (n + 1) = dwn P n := if_neg h
theorem dwn_none {P : Nat → Prop} : ∀ {n : Nat}, lat P n = none → dwn P n = []
  | 0, _ => rfl
  | n + 1, h => by
    by_cases e : P (n + 1)
    · rw [lat_yes e] at h; cases h
    · rw [lat_no e] at h
      rw [dwn_no e]
      exact dwn_none h
theorem dwn_some {P : Nat → Prop} : ∀ {n r : Nat}, lat P n = some r → dwn P n = r :: dwn P (r - 1)
  | 0, _, h => by cases h
  | n + 1, r, h => by
    by_cases e : P (n + 1)
    · rw [lat_yes e] at h
      cases h
      rw [dwn_yes e]
      rfl
    · rw [lat_no e] at h
      rw [dwn_no e]
      exact dwn_some h
theorem dwn_mem {P : Nat → Prop} : ∀ {n q : Nat}, q ∈ dwn P n ↔ 1 ≤ q ∧ q ≤ n ∧ P q
  | 0, q => by simp [dwn]; omega
  | n + 1, q => by
    by_cases e : P (n + 1)
    · rw [dwn_yes e, List.mem_cons, dwn_mem]
      constructor
      · rintro (rfl | ⟨h1, h2, h3⟩)
        · exact ⟨by omega, Nat.le_refl _, e⟩
        · exact ⟨h1, by omega, h3⟩
      · rintro ⟨h1, h2, h3⟩
        by_cases eq : q = n + 1
        · exact .inl eq
        · exact .inr ⟨h1, by omega, h3⟩
    · rw [dwn_no e, dwn_mem]
      constructor
      · rintro ⟨h1, h2, h3⟩; exact ⟨h1, by omega, h3⟩
      · rintro ⟨h1, h2, h3⟩
        refine ⟨h1, ?_, h3⟩
        by_cases eq : q = n + 1
        · rw [eq] at h3; exact absurd h3 e
        · omega
theorem dwn_len {P : Nat → Prop} : ∀ n, (dwn P n).length ≤ n
  | 0 => Nat.le_refl _
  | n + 1 => by
    have := dwn_len (P := P) n
    by_cases e : P (n + 1)
    · rw [dwn_yes e, List.length_cons]; omega
    · rw [dwn_no e]; omega
/-- the places of the end run, the latest first -/
noncomputable def plL (tx : Nat → Int) (most n : Nat) : List Nat := if endL tx most n = 0 then [] else dwn (Hd tx (endL tx most n - 1) (runV (rn tx n (endL tx most n)))) (n - 1)
theorem plL_len (tx : Nat → Int) (most n : Nat) : (plL tx most n).length ≤ n := by
  unfold plL
  split
  · exact Nat.zero_le _
  · exact Nat.le_trans (dwn_len _) (Nat.sub_le _ _)
def encQ (q : Nat) : Array Value := #[.int .i64 (q : Int)]
def encV {α : Type} (val : α → Nat) (x : α) : Array Value := #[.int .i64 ((val x : Nat) : Int)]
/-- what a round keeps: these blocks -/
structure KpD (D : Nat → Prop) (W W' : World) : Prop where
  size : W.heap.size ≤ W'.heap.size
  blk : ∀ b, D b → W'.heap[b]? = W.heap[b]?
theorem KpD.refl (D : Nat → Prop) (W : World) : KpD D W W := ⟨Nat.le_refl _, fun _ _ => rfl⟩
theorem KpD.trans {D : Nat → Prop} {X Y Z : World} (h : KpD D X Y) (k : KpD D Y Z) : KpD D X Z := ⟨Nat.le_trans h.size k.size, fun b hb => (k.blk b hb).trans (h.blk b hb)⟩
theorem KpD.of_below {D : Nat → Prop} {n : Nat} {W W' : World} (h : Below n W W') (hD : ∀ b, D b → b < n) : KpD D W W' := ⟨h.size, fun b hb => h.block b (hD b hb)⟩
theorem KpD.row {D : Nat → Prop} {W W' : World} (h : KpD D W W') {b n : Nat} {t : TypeId} {f : Nat → Value} (hr : W.rowIs b t n f) (hb : D b) : W'.rowIs b t n f := hr.of_block (h.blk b hb)
def plD (A : Nat → Nat) (n : Nat) : Nat → Prop := fun b => ∃ q, 1 ≤ q ∧ q ≤ n ∧ b = A q
theorem grown_of {W W' : World} (h : Below W.heap.size W W') : W.grownBy W' none := ⟨h.os, h.tape, h.output, h.size, fun k hk _ => h.block k hk⟩
theorem abides_below {α : Type} {B : Nat} {J : List α → World → Prop} (hJ : AbidesFrom B J) {s : List α} {W W' : World} (h : J s W) (f : Below W.heap.size W W') : J s W' :=
  hJ s W W' none h (grown_of f) (fun r e => by cases e)
def lenOf (w : World) (v : Value) : Nat := match v with
  | .pointer (some a) => (match w.cell? a with | some (.int _ n) => n.toNat | _ => 0)
  | _ => 0
theorem lenOf_eq {w : World} {b o n : Nat} (h : w.cell? ⟨b, o, none⟩ = some (.int .i64 n)) : lenOf w (.pointer (some ⟨b, o, none⟩)) = n := by unfold lenOf; simp [h]
theorem ptr_non (pa : Option Addr) (w : World) : (binOp .neq 64 (.pointer pa) (.pointer none)).run Try.prog w = .ok (.bool (!decide (pa = none))) w := by
  cases pa <;> rfl
set_option maxRecDepth 100000 in
set_option maxHeartbeats 4000000 in
theorem iter_in {α : Type} (val : α → Nat) (l Bn X : Nat) (S : Nat → Prop) (most n : Nat) (tx : Nat → Int) (A : Nat → Nat) (L : List α) (hLL : L.map val = plL tx most n) (J Jx : List α → World → Prop)
    (W : World) (h : Idx W X S most n tx A) (hJ : AbidesFrom W.heap.size J)
    (hY : ∀ pre x W, J pre W → pre.length < L.length → YieldAt Fence.wide 3 Try.prog l (encV val x) W fun e W' => (e = .returned (.bool true) ∧ J (pre ++ [x]) W' ∧ KpD (plD A n) W W') ∨ (e = .returned (.bool false) ∧ Jx (pre ++ [x]) W'))
    (hBn : W.cell? ⟨Bn, 0, none⟩ = some (.pointer (some ⟨X, 0, none⟩))) (h0 : J [] W) :
    CallsIn Fence.wide 4 Try.prog 31 #[.func (.yield l) #[] #[], .pointer (some ⟨Bn, 0, none⟩)] W fun e W' => (∃ v, e = .returned v) ∧ ((∃ ys, ys = L ∧ J ys W') ∨ (∃ pre, pre <+: L ∧ Jx pre W')) := by
  refine callsIn_of_wp Try.func31 rfl trivial ?_ rfl
  simp only [Try.ntmps31, List.size_toArray, List.length_cons, List.length_nil, Nat.reduceAdd, Nat.reduceSub, Array.replicate_succ, Array.replicate_zero, List.push_toArray, List.append_toArray, List.nil_append, List.cons_append]
  have HEN := hidd (endRun_any h)
  have HI := hidd h
  have HY := hidd hY
  have HJ := hidd hJ
  have H0 := hidd h0
  have hle := endL_le tx most n
  obtain ⟨e, he⟩ : ∃ e, e = endL tx most n := ⟨_, rfl⟩
  have HLE := hidd he
  rw [← he] at HEN hle
  clear h hY hJ h0 he
  rcases e with _ | i
  · have hnil : L = [] := by
      have h9 := hLL
      unfold plL at h9
      rw [if_pos HLE.out.symm] at h9
      exact List.map_eq_nil_iff.1 h9
    obtain ⟨la, HLA⟩ : ∃ v, Hid (v = (if n = 0 then Value.pointer none else Value.pointer (some ⟨A n, 0, none⟩))) := ⟨_, rfl⟩
    rw [← HLA.out] at HEN
    gi_wp2_with (refine ⟨trivial, ?_⟩; gi_at_call 32; refine (callsIn_wide.2 HEN.out).mono ?_; rintro e' W1 ⟨rfl, f1⟩)
    gi_wp2
    refine bodyPost_ret (results_none rfl _ _ _) rfl ?_
    exact ⟨⟨_, rfl⟩, .inl ⟨_, hnil.symm, abides_below HJ.out H0.out f1⟩⟩
  · have hn1 : 1 ≤ n := by omega
    rw [if_neg (by omega)] at HEN
    obtain ⟨P, HP⟩ : ∃ P : Nat → Prop, Hid (P = Hd tx i (runV (rn tx n (i + 1)))) := ⟨_, rfl⟩
    have HL : Hid (L.map val = dwn P (n - 1)) := by
      show L.map val = _
      rw [hLL, HP.out]
      unfold plL
      rw [if_neg (by rw [← HLE.out]; omega), ← HLE.out]
      rfl
    have HPE : Hid (∀ q, 1 ≤ q → q ≤ n → (P q ∨ q = n) → ear tx q i = lat P (q - 1)) := fun q h1 h2 hq => by
      rw [HP.out] at hq ⊢
      unfold ear
      rcases hq with hq | hq
      · rw [hq.2]
      · rw [hq]
    have HPI : Hid (∀ q, P q → i + 1 ≤ q) := fun q hq => by rw [HP.out] at hq; exact hq.1
    obtain ⟨M, Lb, tv, pv, hix⟩ := HI.out.ex
    have hm4 := hix.hm
    have HPL : Hid (∀ V, KpD (plD A n) W V → ∀ q, 1 ≤ q → q ≤ n → V.rowIs (A q) 69 5 (plF tx A most q)) := fun V hV q h1 h2 => hV.row (hix.pls q h1 h2) ⟨q, h1, h2, rfl⟩
    have HDL : Hid (∀ b, plD A n b → b < W.heap.size) := fun b ⟨q, h1, h2, e⟩ => by rw [e]; exact (hix.pls q h1 h2).lt
    have HEA : Hid (∀ V, KpD (plD A n) W V → ∀ q, 1 ≤ q → q ≤ n → (P q ∨ q = n) → V.cell? ⟨A q, i + 1, none⟩ = some (ptO A (lat P (q - 1)))) := fun V hV q h1 h2 hq => by
      have hiq : i < q := by
        rcases hq with hq | hq
        · have := HPI.out q hq; omega
        · omega
      rw [(HPL.out V hV q h1 h2).cell (i := i + 1) (by omega)]
      unfold plF erV
      rw [if_neg (by omega), if_pos ⟨by omega, by omega⟩, ← HPE.out q h1 h2 hq]
      rfl
    clear hix hLL
    have hpn := ptr_non
    have e2 : (((i + 1 : Nat) : Int)) - 1 = (i : Int) := by omega
    have e3 : (((i : Int) + 1) == 0) = false := by simp; omega
    have i0 : (0 : Int) ≤ (i : Int) := by omega
    have i1 : (i : Int) < 4 := by omega
    have hwl : IntKind.i64.wrap (i : Int) = (i : Int) := wrap_small _ (by omega) (by omega)
    have ek : 1 + i = i + 1 := by omega
    gi_wp2_with (refine ⟨trivial, ?_⟩; gi_at_call 32; refine (callsIn_wide.2 HEN.out).mono ?_; rintro e' W1 ⟨rfl, f1⟩; have K1 := hidd (KpD.of_below f1 HDL.out); have c1 := HEA.out W1 K1.out n hn1 (Nat.le_refl _) (.inr rfl); have HJ1 := hidd (abides_below HJ.out H0.out f1); clear f1)
    clear c1 HEN H0
    gi_loopw [5] (fun v wr => ∃ k m, k ≤ L.length ∧ m < n ∧ v = ptO A (lat P m) ∧ dwn P m = (L.map val).drop k ∧ Hid (J (L.take k) wr) ∧ Hid (KpD (plD A n) W wr)) (fun v wr => lenOf wr v)
    case atStart => exact ⟨0, n - 1, Nat.zero_le _, by omega, rfl, by rw [HL.out]; rfl, by show J _ _; simpa using HJ1.out, K1⟩
    case round =>
      clear HJ1 K1
      obtain ⟨k, m, hk, hm, rfl, hd, HJk, HKk⟩ := hrel
      cases hla : lat P m with
      | none =>
        have hnil : L.take k = L := by
          rw [dwn_none hla] at hd
          have := congrArg List.length hd
          simp at this
          exact List.take_of_length_le (by omega)
        have HE : Hid (J L wr) := by have := HJk.out; rw [hnil] at this; exact this
        have ev : ptO A none = Value.pointer none := rfl
        rw [ev]
        gi_wp2
        go_end0
        exact ⟨⟨_, rfl⟩, .inl ⟨_, rfl, HE.out⟩⟩
      | some r =>
        obtain ⟨hr1, hr2, hr3, _⟩ := lat_some hla
        have ev : ptO A (some r) = Value.pointer (some ⟨A r, 0, none⟩) := rfl
        rw [ev]
        have hrow := HPL.out wr HKk.out r hr1 (by omega)
        have a0 : wr.cell? ⟨A r, 0, none⟩ = some (.int .i64 r) := hrow.cell (i := 0) (by decide)
        rw [dwn_some hla] at hd
        have hkl : k < L.length := by
          have := congrArg List.length hd
          simp at this
          omega
        obtain ⟨x, hx1, hx2, hx3⟩ : ∃ x, L[k]? = some x ∧ val x = r ∧ (L.map val).drop (k + 1) = dwn P (r - 1) := by
          rw [List.drop_eq_getElem_cons (by simpa using hkl)] at hd
          injection hd with h1 h2
          exact ⟨L[k], List.getElem?_eq_getElem hkl, by rw [h1]; simp, h2.symm⟩
        have HE2 : Hid (L.take k ++ [x] = L.take (k + 1)) := by
          show _ = _
          rw [List.take_add_one, hx1]
          rfl
        have HDR := hidd hx3
        have HLN : Hid (lenOf wr (.pointer (some ⟨A r, 0, none⟩)) = r) := lenOf_eq a0
        obtain ⟨fn, tmps, assign, body, hy, hR⟩ := HY.out (L.take k) x _ HJk.out (by rw [List.length_take]; omega)
        unfold encV at hy
        rw [hx2] at hy
        clear hrow hd hx1 hx2 hx3
        gi_wp2
        refine hR.mono ?_
        rintro e W3 (⟨rfl, hJ3, hk3⟩ | ⟨rfl, hJx3⟩)
        · have c3 := HEA.out W3 (HKk.out.trans hk3) r hr1 (by omega) (.inl hr3)
          have HK3 := hidd (HKk.out.trans hk3)
          have HJ3 := hidd hJ3
          clear a0 hJ3 hk3
          gi_wp2
          go_roundw
          case rel => exact ⟨k + 1, r - 1, by omega, by omega, rfl, HDR.out.symm, by show J _ _; rw [← HE2.out]; exact HJ3.out, HK3⟩
          case measure =>
            show lenOf W3 (ptO A (lat P (r - 1))) < lenOf wr (.pointer (some ⟨A r, 0, none⟩))
            rw [HLN.out]
            cases hlb : lat P (r - 1) with
            | none => show 0 < r; omega
            | some s =>
              obtain ⟨s1, s2, _, _⟩ := lat_some hlb
              have : lenOf W3 (ptO A (some s)) = s := lenOf_eq ((HPL.out W3 HK3.out s s1 (by omega)).cell (i := 0) (by decide))
              rw [this]
              omega
        · gi_wp2
          refine bodyPost_ret (results_none rfl _ _ _) rfl ?_
          exact ⟨⟨_, rfl⟩, .inr ⟨_, by rw [HE2.out]; exact List.take_prefix _ _, hJx3⟩⟩
theorem iter_stops (Bn X : Nat) (S : Nat → Prop) (most n : Nat) (tx : Nat → Int) (A : Nat → Nat) (L : List Nat) (hLL : L = plL tx most n) (w : World) (hBl : Bn < w.heap.size) (hc : w.cell? ⟨Bn, 0, none⟩ = some (.pointer (some ⟨X, 0, none⟩))) (h : Idx w X S most n tx A) :
    SeqStopsK Fence.wide 4 Try.prog 31 #[.pointer (some ⟨Bn, 0, none⟩)] encQ (KpD (plD A n)) (fun ys => ys = L) (fun ys => ys <+: L) L.length w := fun l J Jx W hW hJ _ hY h0 =>
  iter_in (fun q => q) l Bn X S most n tx A L (by rw [← hLL]; simp) J Jx W (h.fresh hW) hJ hY ((hW.cell (p := ⟨Bn, 0, none⟩) hBl).trans hc) h0
/-- the same, of places below the text's end -/
structure Pn (n : Nat) where
  q : Nat
  lo : 1 ≤ q
  hi : q < n
theorem iter_stopsP (Bn X : Nat) (S : Nat → Prop) (most n : Nat) (tx : Nat → Int) (A : Nat → Nat) (L : List (Pn n)) (hLL : L.map Pn.q = plL tx most n) (w : World) (hBl : Bn < w.heap.size) (hc : w.cell? ⟨Bn, 0, none⟩ = some (.pointer (some ⟨X, 0, none⟩))) (h : Idx w X S most n tx A) :
    SeqStopsK Fence.wide 4 Try.prog 31 #[.pointer (some ⟨Bn, 0, none⟩)] (encV (Pn.q (n := n))) (KpD (plD A n)) (fun ys => ys = L) (fun ys => ys <+: L) L.length w := fun l J Jx W hW hJ _ hY h0 =>
  iter_in (Pn.q (n := n)) l Bn X S most n tx A L hLL J Jx W (h.fresh hW) hJ hY ((hW.cell (p := ⟨Bn, 0, none⟩) hBl).trans hc) h0
theorem plL_mem {tx : Nat → Int} {most n q : Nat} (h : q ∈ plL tx most n) : 1 ≤ q ∧ q < n := by
  unfold plL at h
  split at h
  · cases h
  · have := dwn_mem.1 h
    omega
theorem plL_sub (tx : Nat → Int) (most n : Nat) : ∃ L : List (Pn n), L.map Pn.q = plL tx most n := by
  have key : ∀ l : List Nat, (∀ q ∈ l, 1 ≤ q ∧ q < n) → ∃ L : List (Pn n), L.map Pn.q = l := by
    intro l
    induction l with
    | nil => exact fun _ => ⟨[], rfl⟩
    | cons q r ih =>
      intro h
      obtain ⟨L, hL⟩ := ih (fun x hx => h x (by simp [hx]))
      exact ⟨⟨q, (h q (by simp)).1, (h q (by simp)).2⟩ :: L, by rw [List.map_cons, hL]⟩
  exact key _ (fun q hq => plL_mem hq)
end Go.Proofs.Ytbpldnlafilbbaa
