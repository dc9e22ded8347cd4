import Derived.Test.YteiocgciblogdabVRJn
import Derived.Test.YteiocgciblogdabVSpl
import Derived.Test.YteiocgciblogdabVRck
import Derived.Deep.RegionHeld3
namespace Go.Proofs.Yteiocgciblogdab
open Go.RowKit
/-! The reference's Encode. -/
theorem VD.tok_at {d : VD} (hR : d.Right) {x : Int} (hx : 0 ≤ x) {i : Nat} (hi : i < d.nb) (e : d.B i = x) : d.tok x = (i : Int) + 1 := by
  have hz : d.tok x ≠ 0 := fun h => (d.tok_zero hx).1 h i hi e
  rcases d.btk_spec x.toNat (d.nb + 1) with h | ⟨j, hj, e1, e2⟩
  · exact absurd h hz
  · have e3 : d.B j = d.B i := by rw [e1, e]; omega
    have : j = i := by
      rcases Nat.lt_trichotomy j i with h | h | h
      · exact absurd e3 (hR.base i hi j h)
      · exact h
      · exact absurd e3.symm (hR.base j hj i h)
    rw [VD.tok, e2, this]
set_option maxRecDepth 20000 in
set_option maxHeartbeats 2000000 in
theorem base_ref {w : World} {d : VD} (hR : d.Right) {bo po : Option Addr} {cb cp : Nat} (hb : RdA w bo 1 d.nb cb (fun i => .int .u8 (d.B i))) (x : Int) (hx : 0 ≤ x) :
    Calls Try.prog 26 #[.agg #[.slice bo d.nb cb, .slice po d.np cp], .int .u8 x] w fun e w' => e = .returned (.int .i64 (d.tok x)) ∧ Below w.heap.size w w' := by
  obtain ⟨z1, z2, z3⟩ := hR.cnt
  have HR := hidd hR
  clear hR
  have hf0 := fresh_alloc w (.cells #[.slice bo d.nb cb, .slice po d.np cp] 25)
  have K := row2_new w 25 (.slice bo d.nb cb) (.slice po d.np cp)
  have hb1 := hb.fresh hf0
  go_enter Try.func26, Try.ntmps26
  go_wp2
  generalize w.alloc (.cells #[.slice bo d.nb cb, .slice po d.np cp] 25) = w1 at *
  obtain ⟨y0, y1⟩ := row2 K
  go_loopw [5] (fun iv wr => ∃ (i : Nat), i ≤ d.nb ∧ iv = .int .i64 i ∧ wr = w1 ∧ Hid (∀ j, j < i → d.B j ≠ x)) (fun iv _ => d.nb - (intOf iv).toNat)
  case atStart => exact ⟨0, by omega, rfl, rfl, fun j hj => absurd hj (by omega)⟩
  case round =>
    obtain ⟨i, hi, rfl, rfl, HN⟩ := hrel
    by_cases hlt : i < d.nb
    · obtain ⟨b1, o1, rfl, h1⟩ := hb1.one (by omega)
      have c1 := h1 i hlt
      clear h1
      by_cases e : d.B i = x
      · have HT := hidd (VD.tok_at HR.out hx hlt e)
        have t1 : (d.B i == x) = true := by simpa using e
        go_wp2
        go_ret
        exact ⟨by rw [HT.out]; rfl, hf0⟩
      · have t1 : (d.B i == x) = false := by simpa using e
        have HE := hidd e
        clear e
        go_wp2
        go_roundw
        case rel => exact ⟨i + 1, by omega, by go_num, trivial, fun j hj => if h : j = i then h ▸ HE.out else HN.out j (by omega)⟩
        case measure => simp [intOf]; omega
    · have HT := hidd ((d.tok_zero hx).2 (fun j hj => HN.out j (by omega)))
      go_wp2
      go_ret
      exact ⟨by rw [HT.out]; rfl, hf0⟩
/-- Encode's answer, as it is read -/
def EncR (w0 w : World) (l : List Int) (x : Int) (e : Ending) : Prop := ∃ a c, e = .returned (.tuple #[.slice a l.length c, .int .i64 x]) ∧ RdA w a 1 l.length c (fun j => .int .i64 (l.getD j 0)) ∧ Below w0.heap.size w0 w
theorem rdA_nil (w : World) (f : Nat → Value) : RdA w none 1 0 0 f := ⟨Nat.le_refl _, Nat.zero_le _, fun h => absurd h (by omega)⟩
set_option maxRecDepth 20000 in
set_option maxHeartbeats 8000000 in
theorem renc_any {w : World} {d : VD} {bo po ao : Option Addr} {cb cp n ca : Nat} {X : Nat → Int} (hb : RdA w bo 1 d.nb cb (fun i => .int .u8 (d.B i))) (hp : RdA w po 2 d.np cp (tcs d.P d.Q)) (hN : d.np ≤ 8796093022208)
    (ha : RdA w ao 1 n ca (fun i => .int .u8 (X i))) (hX : ∀ i, i < n → 0 ≤ X i ∧ X i ≤ 255) (hn : n ≤ 1048576) (x : Int) (l : List Int) (hx : d.encOut X n x l) :
    Calls Try.prog 8 #[.agg #[.slice bo d.nb cb, .slice po d.np cp], .slice ao n ca] w fun e w' => EncR w w' l x e := by
  have hf0 := fresh_alloc w (.cells #[.slice bo d.nb cb, .slice po d.np cp] 25)
  have K := row2_new w 25 (.slice bo d.nb cb) (.slice po d.np cp)
  have HX := hidd hx
  have HXb := hidd hX
  clear hx hX
  by_cases hR : d.Right
  · have HR := hidd hR
    clear hR
    go_enter Try.func8, Try.ntmps8
    go_wp2_with fail
    generalize w.alloc (.cells #[.slice bo d.nb cb, .slice po d.np cp] 25) = w1 at *
    refine (rcheck_any (hb.fresh hf0) (hp.fresh hf0) hN 0 (.inl ⟨HR.out, rfl⟩)).mono ?_
    rintro e w2 ⟨rfl, hf2⟩
    go_wp2
    go_loopw [6, 7] (fun v iv wr => ∃ (k : Nat), k ≤ n ∧ iv = .int .i64 k ∧ Hid (∀ i, i < k → d.tok (X i) ≠ 0) ∧ Own wr w1.heap.size 3 1 v k (fun j => .int .i64 (d.tok (X j))) ∧ Below w1.heap.size w1 wr) (fun _ iv _ => n - (intOf iv).toNat)
    case atStart => exact ⟨0, by omega, rfl, (fun i hi => absurd hi (by omega)), own_nil _ _ _ _ _, hf2⟩
    case round =>
      clear hf2
      obtain ⟨k, hk, rfl, HG, hO, hfb⟩ := hrel
      have hF := fresh_trans hf0 hfb
      have hsz := hfb.size
      have hr := K.of_block (hfb.block _ K.lt)
      obtain ⟨y0, y1⟩ := row2 hr
      by_cases hlt : k < n
      · obtain ⟨b1, o1, rfl, h1⟩ := (ha.fresh hF).one (by omega)
        have c1 := h1 k hlt
        clear h1
        have i1 : (0 : Int) ≤ (k : Int) := Int.natCast_nonneg _
        have i2 : (k : Int) < (n : Int) := by omega
        have hd0 : Below wr.heap.size wr wr.drew := (Below.refl _ _).drew
        have hK : Hid (Calls Try.prog 26 #[.agg #[.slice bo d.nb cb, .slice po d.np cp], .int .u8 (X k)] wr.drew fun e w'' => e = .returned (.int .i64 (d.tok (X k))) ∧ Below wr.heap.size wr w'') := by
          refine (base_ref HR.out (hb.fresh (fresh_trans hF hd0)) (X k) (HXb.out k hlt).1).mono ?_
          rintro e w'' ⟨rfl, h2⟩
          exact ⟨rfl, fresh_trans hd0 h2⟩
        have hS : Hid (∀ w', Below wr.heap.size wr w' → Below wr.heap.size wr w' ∧ w'.cell? ⟨w.heap.size, 0, none⟩ = some (.slice bo d.nb cb) ∧ w'.cell? ⟨w.heap.size, 1, none⟩ = some (.slice po d.np cp) ∧ w'.cell? ⟨b1, o1 + k, none⟩ = some (.int .u8 (X k))) := fun w' h => ⟨h, fresh_cell h y0, fresh_cell h y1, fresh_cell h c1⟩
        obtain ⟨T, ET⟩ : ∃ T, Hid (T = d.tok (X k)) := ⟨_, rfl⟩
        rw [← ET.out] at hK
        go_upto_region 7 with fail
        go_region_held3 (fun w' => Below wr.heap.size wr w' ∧ w'.cell? ⟨w.heap.size, 0, none⟩ = some (.slice bo d.nb cb) ∧ w'.cell? ⟨w.heap.size, 1, none⟩ = some (.slice po d.np cp) ∧ w'.cell? ⟨b1, o1 + k, none⟩ = some (.int .u8 (X k)))
          (first
            | (with_reducible refine hS.out _ ?_; with_reducible exact hd0)
            | (with_reducible refine hS.out _ ?_; with_reducible exact hf9)
            | go_keep)
          ((go_at_call 26; have hc := hK.out; with_reducible refine hc.mono ?_; clear hc; rintro e w9 ⟨rfl, hf9⟩))
        all_goals
          have hO9 := hO.kept hf9
          have hfb9 := fresh_trans hfb hf9
          have hF9 := fresh_trans hF hf9
          have hsz9 := hfb9.size
          clear hS hK hd0 y0 y1 c1 hr hfb hF hO hf9
          by_cases hz : T = 0
          · obtain ⟨rfl, rfl⟩ : x = 51 ∧ l = [] := by
              rcases HX.out with ⟨h, _⟩ | ⟨_, _, e1, e2⟩ | ⟨_, h, _⟩
              · exact absurd HR.out h
              · exact ⟨e1, e2⟩
              · exact absurd (by rw [← ET.out]; exact hz) (h k hlt)
            have t1 : (T == 0) = true := by simpa using hz
            clear hz
            go_wp2
            go_ret2
            exact ⟨_, _, rfl, rdA_nil _ _, hF9⟩
          · have t1 : (T == 0) = false := by simpa using hz
            have HT : Hid (d.tok (X k) ≠ 0) := by rw [← ET.out]; exact hz
            have E := hidd ET.out.symm
            clear hz
            go_wp2_with (at_builtin; refine wpList_app1 _ rfl _ _ 28 rfl w1.heap.size 3 (.int .i64 0) 8 Try.underlying28 infoI rfl _ k (fun j => .int .i64 (d.tok (X j))) rfl (hO9.kept (fresh_alloc _ _)) _ 1 rfl (new_int _ _ E.out) rfl (by omega) (by omega) (by simp; omega) ?_)
            intro v' w6 hown' happ
            have hf6 := happ.below (hfb9.alloc hsz9 _) (hO9.kept (fresh_alloc _ _)) (Nat.le_refl _) (by simp; omega)
            clear happ hO9 hfb9 hF9
            go_wp2
            go_roundw
            case rel => exact ⟨k + 1, by omega, by go_num, (fun i hi => if h : i = k then h ▸ HT.out else HG.out i (by omega)), hown', hf6⟩
            case measure => simp [intOf]; omega
      · obtain rfl : k = n := by omega
        obtain ⟨rfl, rfl⟩ : x = 0 ∧ l = d.encL (d.first X k) d.np := by
          rcases HX.out with ⟨h, _⟩ | ⟨_, ⟨i, hi, h⟩, _⟩ | ⟨_, _, e1, e2⟩
          · exact absurd HR.out h
          · exact absurd h (HG.out i hi)
          · exact ⟨e1, e2⟩
        clear HX
        obtain ⟨a8, c8, rfl, rd8⟩ := hO.rd
        have rdL : RdA wr a8 1 (d.encL (d.first X k) 0).length c8 (fun j => .int .i64 ((d.encL (d.first X k) 0).getD j 0)) := by
          show RdA wr a8 1 (d.first X k).length c8 (fun j => .int .i64 ((d.first X k).getD j 0))
          rw [d.first_len]
          exact rd8.congr (fun j hj => by rw [d.first_at X k (by omega)])
        have hJ := hidd (rjoin_any HR.out (bo := bo) (cb := cb) (hp.fresh hF) (d.first X k) (by rw [d.first_len]; exact hn) 0 (Nat.zero_le _) rdL)
        have eL : (d.encL (d.first X k) 0).length = k := d.first_len X k
        rw [eL] at hJ
        clear rdL eL rd8
        go_wp2_with fail
        refine hJ.out.mono ?_
        rintro e w9 ⟨a9, c9, rfl, rd9, hf9⟩
        have hF9 := fresh_trans hF hf9
        clear hJ y0 y1 hr hfb hO
        go_wp2
        go_ret2
        exact ⟨_, _, rfl, rd9, hF9⟩
  · have HR := hidd hR
    obtain ⟨rfl, rfl⟩ : x = 50 ∧ l = [] := by
      rcases HX.out with ⟨_, e1, e2⟩ | ⟨h, _⟩ | ⟨h, _⟩
      · exact ⟨e1, e2⟩
      · exact absurd h hR
      · exact absurd h hR
    clear hR
    go_enter Try.func8, Try.ntmps8
    go_wp2_with fail
    refine (rcheck_any (hb.fresh hf0) (hp.fresh hf0) hN 50 (.inr ⟨HR.out, rfl⟩)).mono ?_
    rintro e w2 ⟨rfl, hf2⟩
    have hF := fresh_trans hf0 hf2
    go_wp2
    go_ret2
    exact ⟨_, _, rfl, rdA_nil _ _, hF⟩
end Go.Proofs.Yteiocgciblogdab
