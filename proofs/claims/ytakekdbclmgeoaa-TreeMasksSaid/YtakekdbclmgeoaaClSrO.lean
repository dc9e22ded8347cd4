import Derived.Test.YtakekdbclmgeoaaClSrN
import Derived.Test.YtakekdbclmgeoaaClTrF
namespace Go.Proofs.Ytakekdbclmgeoaa.Cl
open Go.RowKit
/-! Clean. -/
theorem rowIs_rd3 {w : World} {b n : Nat} {t : TypeId} {f : Nat → Value} (h : w.rowIs b t (n * 3) f) (hn : n ≤ maxLen) : RdA w (some ⟨b, 0, none⟩) 3 n n f :=
  ⟨Nat.le_refl _, hn, fun _ => ⟨b, 0, rfl, fun j hj => by rw [Nat.zero_add]; exact h.cell hj⟩⟩
set_option maxRecDepth 20000 in
set_option maxHeartbeats 1600000 in
theorem clean_bad {w : World} {ao : Option Addr} {R cap : Nat} (root vocab : Int) (hR : 96 < R) :
    Calls Try.prog 40 #[.int .i64 root, .slice ao R cap, .int .i64 vocab] w fun e w' => e = .returned (.tuple #[.slice none 0 0, .int .i64 140]) ∧ Below w.heap.size w w' := by
  have d1 : decide ((96 : Int) < (R : Int)) = true := decide_eq_true (by omega)
  have d2 : decide (96 < R) = true := decide_eq_true hR
  have d3 : (96 : Int) < (R : Int) := by omega
  go_enter Try.func40, Try.ntmps40
  go_wp2
  go_ret2
  exact ⟨rfl, Below.refl _ _⟩
set_option maxRecDepth 20000 in
set_option maxHeartbeats 1600000 in
theorem clean_ok {w : World} {ao : Option Addr} {R cap : Nat} {L : List (Int × Int)} {root vocab : Int} (h : RdA w ao 2 R cap (rwF L)) (hR : R ≤ 96) (hv : fits vocab) {s : Ga} (hs : s = gaS root vocab (fun i => (L.getD i (0, 0)).1) (fun i => (L.getD i (0, 0)).2) R) {m : Nat} (hm : m = min 32 s.n) :
    Calls Try.prog 40 #[.int .i64 root, .slice ao R cap, .int .i64 vocab] w fun e w' => ∃ d : Nat → Nat, (Fr (fun i => i) d 0 s.n ∧ Srt s.D d 0 s.n ∧ d 0 = 0) ∧ ∃ u c, e = .returned (.tuple #[.slice u m c, .int .i64 0]) ∧ Own w' w.heap.size 54 3 (.slice u m c) m (nds (ouP s.P d (mv d s.n)) (fun i => s.T (d i)) (fun i => s.D (d i))) ∧ Below w.heap.size w w' := by
  have d1 : decide ((96 : Int) < (R : Int)) = false := decide_eq_false (by omega)
  have d2 : decide (96 < R) = false := decide_eq_false (by omega)
  have d3 : ¬ ((96 : Int) < (R : Int)) := by omega
  have HOK : Hid (GaOk vocab s R) := by rw [hs]; exact gaS_ok _ _ _ _ R
  have HGA := hidd (gather_any (root := root) (vocab := vocab) h (by omega) hv)
  rw [← hs] at HGA
  obtain ⟨n, HN⟩ : ∃ n, Hid (n = s.n) := ⟨_, rfl⟩
  have hn1 : 1 ≤ n := by rw [HN.out]; exact HOK.out.one
  have hn2 : n ≤ 97 := by have := HOK.out.le; have := HN.out; omega
  rw [← HN.out] at HGA hm ⊢
  have HM := hidd hm
  have HBY : Hid (∀ (w1 : World) (u : Option Addr) (c : Nat), Own w1 w.heap.size 54 3 (.slice u n c) n (nds s.P s.T s.D) → Calls Try.prog 44 #[.slice u n c] w1 fun e w' => ∃ (d : Nat → Nat) (g : Nat), (Fr (fun i => i) d 0 n ∧ Srt s.D d 0 n ∧ d 0 = 0) ∧ e = .returned (.slice (some ⟨g, 0, none⟩) n n) ∧ RdA w' (some ⟨g, 0, none⟩) 3 n n (nds (ouP s.P d (mv d n)) (fun i => s.T (d i)) (fun i => s.D (d i))) ∧ Below w1.heap.size w1 w') := fun w1 u c ho => by
    have hlt := ho.lt
    have hr := own_rda ho
    obtain ⟨b, o, e, _⟩ := hr.node (by omega)
    subst e
    refine (byDepth_any hr hn1 (by omega) (hlt b rfl).2 (fun i i1 i2 => ?_) (fun i i1 i2 => ?_)).mono ?_
    · have := HOK.out.par i i1 (by rw [← HN.out]; exact i2)
      omega
    · exact HOK.out.deep i1 (by rw [← HN.out]; exact i2)
    · rintro e w' ⟨d, k1, k2, k3, g, k4, rfl, k5, k6⟩
      exact ⟨d, g, ⟨k1, k2, k3⟩, rfl, rowIs_rd3 k5 (by unfold maxLen; omega), k6⟩
  have HFI : Hid (∀ (w2 : World) (d : Nat → Nat) (g : Nat), RdA w2 (some ⟨g, 0, none⟩) 3 n n (nds (ouP s.P d (mv d n)) (fun i => s.T (d i)) (fun i => s.D (d i))) → Calls Try.prog 31 #[.slice (some ⟨g, 0, none⟩) n n, .int .i64 32] w2 fun e w' => ∃ u c, e = .returned (.slice u m c) ∧ Own w' w2.heap.size 54 3 (.slice u m c) m (nds (ouP s.P d (mv d n)) (fun i => s.T (d i)) (fun i => s.D (d i))) ∧ Below w2.heap.size w2 w') := fun w2 d g hr => first_any hr (by omega) (by omega) 32 (by omega) (by have := HM.out; omega)
  clear h hv hs hm
  go_enter Try.func40, Try.ntmps40
  go_wp2_with (first
    | (go_at_call 45; with_reducible refine HGA.out.mono ?_; rintro e w1 ⟨u, c, rfl, ho, hb⟩; have HB1 := hidd hb; have HBC := hidd (HBY.out _ _ _ ho); clear ho hb)
    | (go_at_call 44; with_reducible refine HBC.out.mono ?_; rintro e w2 ⟨d, g, hd, rfl, hr, hb⟩; have HD := hidd hd; have HB2 := hidd hb; have HFC := hidd (HFI.out _ _ _ hr); clear hd hb hr)
    | (go_at_call 31; with_reducible refine HFC.out.mono ?_; rintro e w3 ⟨u3, c3, rfl, ho, hb⟩; have HO3 := hidd ho; have HB3 := hidd hb; clear ho hb))
  go_ret2
  exact ⟨d, HD.out, _, _, rfl, HO3.out.weaken (Nat.le_trans HB1.out.size HB2.out.size), fresh_trans (fresh_trans HB1.out HB2.out) HB3.out⟩
end Go.Proofs.Ytakekdbclmgeoaa.Cl
