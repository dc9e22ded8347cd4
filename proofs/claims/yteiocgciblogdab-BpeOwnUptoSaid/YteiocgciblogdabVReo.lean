import Derived.Test.YteiocgciblogdabVRen
import Derived.Test.YteiocgciblogdabVRJo
import Derived.Deep.DeepCutAuto
namespace Go.Proofs.Yteiocgciblogdab
open Go.RowKit
/-! The document's Encode: its answer is a list of its own. -/
def EncO (w0 w : World) (l : List Int) (x : Int) (e : Ending) : Prop := ∃ a c, e = .returned (.tuple #[.slice a l.length c, .int .i64 x]) ∧ OwnI w w0.heap.size (.slice a l.length c) l ∧ Below w0.heap.size w0 w
set_option maxRecDepth 20000 in
set_option maxHeartbeats 8000000 in
theorem renc_own {w : World} {d : VD} {bo po ao : Option Addr} {cb cp n ca : Nat} {X : Nat → Int} (hb : RdA w bo 1 d.nb cb (fun i => .int .u8 (d.B i))) (hp : RdA w po 2 d.np cp (tcs d.P d.Q)) (hN : d.np ≤ 8796093022208)
    (ha : RdA w ao 1 n ca (fun i => .int .u8 (X i))) (hX : ∀ i, i < n → 0 ≤ X i ∧ X i ≤ 255) (hn : n ≤ 1048576) (x : Int) (l : List Int) (hx : d.encOut X n x l) :
    Calls Try.prog 8 #[.agg #[.slice bo d.nb cb, .slice po d.np cp], .slice ao n ca] w fun e w' => EncO w w' l x e := by
  have hf0 := fresh_alloc w (.cells #[.slice bo d.nb cb, .slice po d.np cp] 25)
  have K := row2_new w 25 (.slice bo d.nb cb) (.slice po d.np cp)
  have HX := hidd hx
  have HXb := hidd hX
  clear hx hX
  by_cases hR : d.Right
  · have HR := hidd hR
    clear hR
    go_enter Try.func8, Try.ntmps8
    go_wp2_with fail
    generalize w.alloc (.cells #[.slice bo d.nb cb, .slice po d.np cp] 25) = w1 at *
    refine (rcheck_any (hb.fresh hf0) (hp.fresh hf0) hN 0 (.inl ⟨HR.out, rfl⟩)).mono ?_
    rintro e w2 ⟨rfl, hf2⟩
    go_wp2
    go_loopw [6, 7] (fun v iv wr => ∃ (k : Nat), k ≤ n ∧ iv = .int .i64 k ∧ Hid (∀ i, i < k → d.tok (X i) ≠ 0) ∧ Own wr w1.heap.size 3 1 v k (fun j => .int .i64 (d.tok (X j))) ∧ Below w1.heap.size w1 wr) (fun _ iv _ => n - (intOf iv).toNat)
    case atStart => exact ⟨0, by omega, rfl, (fun i hi => absurd hi (by omega)), own_nil _ _ _ _ _, hf2⟩
    case round =>
      clear hf2
      obtain ⟨k, hk, rfl, HG, hO, hfb⟩ := hrel
      have hF := fresh_trans hf0 hfb
      have hsz := hfb.size
      have hr := K.of_block (hfb.block _ K.lt)
      obtain ⟨y0, y1⟩ := row2 hr
      by_cases hlt : k < n
      · obtain ⟨b1, o1, rfl, h1⟩ := (ha.fresh hF).one (by omega)
        have c1 := h1 k hlt
        clear h1
        have i1 : (0 : Int) ≤ (k : Int) := Int.natCast_nonneg _
        have i2 : (k : Int) < (n : Int) := by omega
        have hd0 : Below wr.heap.size wr wr.drew := (Below.refl _ _).drew
        have hK : Hid (Calls Try.prog 26 #[.agg #[.slice bo d.nb cb, .slice po d.np cp], .int .u8 (X k)] wr.drew fun e w'' => e = .returned (.int .i64 (d.tok (X k))) ∧ Below wr.heap.size wr w'') := by
          refine (base_ref HR.out (hb.fresh (fresh_trans hF hd0)) (X k) (HXb.out k hlt).1).mono ?_
          rintro e w'' ⟨rfl, h2⟩
          exact ⟨rfl, fresh_trans hd0 h2⟩
        have hS : Hid (∀ w', Below wr.heap.size wr w' → Below wr.heap.size wr w' ∧ w'.cell? ⟨w.heap.size, 0, none⟩ = some (.slice bo d.nb cb) ∧ w'.cell? ⟨w.heap.size, 1, none⟩ = some (.slice po d.np cp) ∧ w'.cell? ⟨b1, o1 + k, none⟩ = some (.int .u8 (X k))) := fun w' h => ⟨h, fresh_cell h y0, fresh_cell h y1, fresh_cell h c1⟩
        obtain ⟨T, ET⟩ : ∃ T, Hid (T = d.tok (X k)) := ⟨_, rfl⟩
        rw [← ET.out] at hK
        go_upto_region 7 with fail
        go_region_held3 (fun w' => Below wr.heap.size wr w' ∧ w'.cell? ⟨w.heap.size, 0, none⟩ = some (.slice bo d.nb cb) ∧ w'.cell? ⟨w.heap.size, 1, none⟩ = some (.slice po d.np cp) ∧ w'.cell? ⟨b1, o1 + k, none⟩ = some (.int .u8 (X k)))
          (first
            | (with_reducible refine hS.out _ ?_; with_reducible exact hd0)
            | (with_reducible refine hS.out _ ?_; with_reducible exact hf9)
            | go_keep)
          ((go_at_call 26; have hc := hK.out; with_reducible refine hc.mono ?_; clear hc; rintro e w9 ⟨rfl, hf9⟩))
        all_goals
          have hO9 := hO.kept hf9
          have hfb9 := fresh_trans hfb hf9
          have hF9 := fresh_trans hF hf9
          have hsz9 := hfb9.size
          clear hS hK hd0 y0 y1 c1 hr hfb hF hO hf9
          by_cases hz : T = 0
          · obtain ⟨rfl, rfl⟩ : x = 51 ∧ l = [] := by
              rcases HX.out with ⟨h, _⟩ | ⟨_, _, e1, e2⟩ | ⟨_, h, _⟩
              · exact absurd HR.out h
              · exact ⟨e1, e2⟩
              · exact absurd (by rw [← ET.out]; exact hz) (h k hlt)
            have t1 : (T == 0) = true := by simpa using hz
            clear hz
            go_wp2
            go_ret2
            exact ⟨none, 0, rfl, ownI_nil _ _, hF9⟩
          · have t1 : (T == 0) = false := by simpa using hz
            have HT : Hid (d.tok (X k) ≠ 0) := by rw [← ET.out]; exact hz
            have E := hidd ET.out.symm
            clear hz
            go_wp2_with (at_builtin; refine wpList_app1 _ rfl _ _ 28 rfl w1.heap.size 3 (.int .i64 0) 8 Try.underlying28 infoI rfl _ k (fun j => .int .i64 (d.tok (X j))) rfl (hO9.kept (fresh_alloc _ _)) _ 1 rfl (new_int _ _ E.out) rfl (by omega) (by omega) (by simp; omega) ?_)
            intro v' w6 hown' happ
            have hf6 := happ.below (hfb9.alloc hsz9 _) (hO9.kept (fresh_alloc _ _)) (Nat.le_refl _) (by simp; omega)
            clear happ hO9 hfb9 hF9
            go_wp2
            go_roundw
            case rel => exact ⟨k + 1, by omega, by go_num, (fun i hi => if h : i = k then h ▸ HT.out else HG.out i (by omega)), hown', hf6⟩
            case measure => simp [intOf]; omega
      · obtain rfl : k = n := by omega
        obtain ⟨rfl, rfl⟩ : x = 0 ∧ l = d.encL (d.first X k) d.np := by
          rcases HX.out with ⟨h, _⟩ | ⟨_, ⟨i, hi, h⟩, _⟩ | ⟨_, _, e1, e2⟩
          · exact absurd HR.out h
          · exact absurd h (HG.out i hi)
          · exact ⟨e1, e2⟩
        clear HX
        obtain ⟨a8, c8, rfl, rd8⟩ := hO.rd
        have rdL : OwnI wr w1.heap.size (.slice a8 (d.encL (d.first X k) 0).length c8) (d.encL (d.first X k) 0) := by
          show Own wr w1.heap.size 3 1 (.slice a8 (d.first X k).length c8) (d.first X k).length (fun j => .int .i64 ((d.first X k).getD j 0))
          rw [d.first_len]
          exact hO.congr (fun j hj => by rw [d.first_at X k (by omega)])
        have hJ := hidd (rjoin_own hsz HR.out (bo := bo) (cb := cb) (hp.fresh hF) (d.first X k) (by rw [d.first_len]; exact hn) 0 (Nat.zero_le _) rdL)
        have eL : (d.encL (d.first X k) 0).length = k := d.first_len X k
        rw [eL] at hJ
        clear rdL eL rd8
        go_wp2_with fail
        refine hJ.out.mono ?_
        rintro e w9 ⟨a9, c9, rfl, rd9, hf9⟩
        have hF9 := fresh_trans hF hf9
        clear hJ y0 y1 hr hfb hO
        go_wp2
        go_ret2
        exact ⟨_, _, rfl, Own.weaken rd9 hf0.size, hF9⟩
  · have HR := hidd hR
    obtain ⟨rfl, rfl⟩ : x = 50 ∧ l = [] := by
      rcases HX.out with ⟨_, e1, e2⟩ | ⟨h, _⟩ | ⟨h, _⟩
      · exact ⟨e1, e2⟩
      · exact absurd h hR
      · exact absurd h hR
    clear hR
    go_enter Try.func8, Try.ntmps8
    go_wp2_with fail
    refine (rcheck_any (hb.fresh hf0) (hp.fresh hf0) hN 50 (.inr ⟨HR.out, rfl⟩)).mono ?_
    rintro e w2 ⟨rfl, hf2⟩
    have hF := fresh_trans hf0 hf2
    go_wp2
    go_ret2
    exact ⟨none, 0, rfl, ownI_nil _ _, hF⟩
end Go.Proofs.Yteiocgciblogdab
