import Derived.Test.YtonhnlahpfkalaaTns
import Derived.Test.YtonhnlahpfkalaaMats
namespace Go.Proofs.Ytonhnlahpfkalaa
open Go.RowKit
attribute [local go_sem ↓] Go.wp_at_zero Go.wp_at_succ
/-! The law TensorTurns: its walk. -/
theorem own_ne {w w0 : World} {base : Nat} {e : TypeId} {sz n : Nat} {v : Value} {cs : Nat → Value} (h : Own w base e sz v n cs) {b o : Nat} {x : Value} (hc : w0.cell? ⟨b, o, none⟩ = some x) (hb : w0.heap.size ≤ base) : v.ownBlock ≠ some b := fun e => by
  have h1 := (h.lt b e).1
  have h2 := lt_of_cell hc
  omega
/-- a table of turns -/
structure Tab (w : World) (g N n : Nat) (h : Nat → Nat) (C S : Nat → Int) : Prop where
  cell : ∀ p, p < N → w.cell? ⟨g, p, none⟩ = some (.slice (some ⟨h p, 0, none⟩) n n)
  row : ∀ p, p < N → RdA w (some ⟨h p, 0, none⟩) 2 n n (tcs (tC C S p) (tS C S p))
theorem Tab.fresh {w w' : World} {g N n : Nat} {h : Nat → Nat} {C S : Nat → Int} (t : Tab w g N n h C S) (f : Below w.heap.size w w') : Tab w' g N n h C S :=
  ⟨fun p hp => fresh_cell f (t.cell p hp), fun p hp => (t.row p hp).fresh f⟩
theorem tab_of {w : World} {g N n : Nat} {h : Nat → Nat} {C S : Nat → Int} {F : Nat → Value} (hr : w.rowIs g 22 N F) (hF : ∀ p, p < N → F p = .slice (some ⟨h p, 0, none⟩) n n ∧ g < h p ∧ w.rowIs (h p) 25 (n * 2) (tcs (tC C S p) (tS C S p))) (hn : n ≤ maxLen) : Tab w g N n h C S :=
  ⟨fun p hp => by rw [hr.cell hp, (hF p hp).1], fun p hp => ⟨Nat.le_refl _, hn, fun _ => ⟨h p, 0, rfl, fun j hj => by rw [Nat.zero_add]; exact (hF p hp).2.2.cell hj⟩⟩⟩
theorem mod_bd (x : Int) : -16384 ≤ x.tmod 16385 ∧ x.tmod 16385 ≤ 16384 := by
  have h1 := Int.lt_tmod_of_pos x (show (0 : Int) < 16385 by decide)
  have h2 := Int.tmod_lt_of_pos x (show (0 : Int) < 16385 by decide)
  omega
theorem sh14u (x : Int) : Fix.sh (x * 16384) 14 = x := Fix.near_back x 13 (by decide)
theorem rc_unit (x y : Int) (h0 : -1000000 ≤ x) (h1 : x ≤ 1000000) : rc x y 16384 0 = x := by
  unfold rc
  rw [Int.mul_zero, Int.sub_zero, wid _ (by omega) (by omega)]; exact sh14u x
theorem rs_unit (x y : Int) (h0 : -1000000 ≤ y) (h1 : y ≤ 1000000) : rs x y 16384 0 = y := by
  unfold rs
  rw [Int.mul_zero, Int.zero_add, wid _ (by omega) (by omega)]; exact sh14u y
def still (x : Int) : Int := if x = -128 then -127 else x
theorem cl127 (x : Int) (h0 : -128 ≤ x) (h1 : x ≤ 127) : Fix.cl x 127 = still x := by
  unfold Fix.cl still; split <;> split <;> omega
theorem cl_in (x : Int) (h0 : -16384 ≤ x) (h1 : x ≤ 16384) : Fix.cl x 16384 = x := by unfold Fix.cl; omega
def rot (f C S : Nat → Int) (i : Nat) : Int := if i % 2 = 0 then Fix.cl (rc (f (2 * (i / 2))) (f (2 * (i / 2) + 1)) (C (i / 2)) (S (i / 2))) 127 else Fix.cl (rs (f (2 * (i / 2))) (f (2 * (i / 2) + 1)) (C (i / 2)) (S (i / 2))) 127
theorem rot0 (f C S : Nat → Int) (i : Nat) : rot f C S (2 * i) = Fix.cl (rc (f (2 * i)) (f (2 * i + 1)) (C i) (S i)) 127 := by
  unfold rot; rw [if_pos (by omega), show 2 * i / 2 = i by omega]
theorem rot1 (f C S : Nat → Int) (i : Nat) : rot f C S (2 * i + 1) = Fix.cl (rs (f (2 * i)) (f (2 * i + 1)) (C i) (S i)) 127 := by
  unfold rot; rw [if_neg (by omega), show (2 * i + 1) / 2 = i by omega]
theorem rot_rd {w : World} {b n m : Nat} {F : Nat → Value} {f C S : Nat → Int} (hr : w.rowIs b 32 m F) (hm : m = 2 * n) (hm2 : m ≤ maxLen)
    (hF : ∀ i, i < n → F (2 * i) = .int .i8 (Fix.cl (rc (f (2 * i)) (f (2 * i + 1)) (C i) (S i)) 127) ∧ F (2 * i + 1) = .int .i8 (Fix.cl (rs (f (2 * i)) (f (2 * i + 1)) (C i) (S i)) 127)) : RdA w (some ⟨b, 0, none⟩) 1 m m (fun i => .int .i8 (rot f C S i)) :=
  (rowIs_rd hr hm2).congr (fun j hj => by
    obtain ⟨i, rfl | rfl⟩ : ∃ i, j = 2 * i ∨ j = 2 * i + 1 := ⟨j / 2, by omega⟩
    · rw [(hF i (by omega)).1, rot0]
    · rw [(hF i (by omega)).2, rot1])
theorem rot_unit {f C S : Nat → Int} (i : Nat) (h : ∀ j, -128 ≤ f j ∧ f j ≤ 127) (hC : C (i / 2) = 16384) (hS : S (i / 2) = 0) : rot f C S i = still (f i) := by
  obtain ⟨k, rfl | rfl⟩ : ∃ k, i = 2 * k ∨ i = 2 * k + 1 := ⟨i / 2, by omega⟩
  · rw [show 2 * k / 2 = k by omega] at hC hS
    have := h (2 * k)
    rw [rot0, hC, hS, rc_unit _ _ (by omega) (by omega), cl127 _ (by omega) (by omega)]
  · rw [show (2 * k + 1) / 2 = k by omega] at hC hS
    have := h (2 * k + 1)
    rw [rot1, hC, hS, rs_unit _ _ (by omega) (by omega), cl127 _ (by omega) (by omega)]
theorem tt_one {c s : Int} (h0 : -16384 ≤ c) (h1 : c ≤ 16384) (h2 : -16384 ≤ s) (h3 : s ≤ 16384) : tt c s 1 = (c, s) := by
  show (Fix.cl (rc c s 16384 0) 16384, Fix.cl (rs c s 16384 0) 16384) = (c, s)
  rw [rc_unit _ _ (by omega) (by omega), rs_unit _ _ (by omega) (by omega), cl_in _ h0 h1, cl_in _ h2 h3]
theorem atf_bd {n : Nat} {f : Nat → Int} (h : ∀ i, i < n → -128 ≤ f i ∧ f i ≤ 127) (i : Nat) : -128 ≤ atf n f i ∧ atf n f i ≤ 127 := by
  unfold atf
  split
  · omega
  · exact h _ (Nat.mod_lt _ (by omega))
/-- a piece of a list of turns -/
theorem RdA.cut2 {w : World} {b off n cap : Nat} {C S : Nat → Int} (h : RdA w (some ⟨b, off, none⟩) 2 n cap (tcs C S)) {lo m : Nat} (hh : lo + m ≤ n) : RdA w (some ⟨b, off + lo * 2, none⟩) 2 m (cap - lo) (tcs (fun i => C (lo + i)) (fun i => S (lo + i))) := by
  refine ⟨by have := h.le; omega, by have := h.top; omega, fun hm => ⟨b, off + lo * 2, rfl, fun j hj => ?_⟩⟩
  obtain ⟨b', o', e, hc⟩ := h.at_ (by omega)
  simp only [Option.some.injEq, Addr.mk.injEq, and_true] at e
  obtain ⟨rfl, rfl⟩ := e
  rw [Nat.add_assoc, hc _ (by omega)]
  unfold tcs
  rw [show (lo * 2 + j) % 2 = j % 2 by omega, show (lo * 2 + j) / 2 = lo + j / 2 by omega]
def um (C0 : Nat → Int) : Nat → Int := fun i => (C0 i).tmod 16385
set_option maxRecDepth 100000 in
set_option maxHeartbeats 2000000 in
theorem turns_law {w : World} {ao bo : Option Addr} {nu cu nv cv : Nat} {C0 S0 f : Nat → Int} {n : Int} (ha : RdA w ao 2 nu cu (tcs C0 S0)) (hb : RdA w bo 1 nv cv (fun i => .int .i8 (f i))) (bf : ∀ i, i < nv → -128 ≤ f i ∧ f i ≤ 127) :
    Calls Try.prog 3 #[.slice ao nu cu, .int .i64 n, .slice bo nv cv] w fun e w' => e = .returned (.bool true) ∧ Below w.heap.size w w' := by
  have hnu : nu ≤ 9223372036854775807 := by have := ha.le; have := ha.top; unfold maxLen at this; omega
  have hnv : nv ≤ 9223372036854775807 := by have := hb.le; have := hb.top; unfold maxLen at this; omega
  go_enter Try.func3, Try.ntmps3
  go_wp2
  go_loopw [7, 8] (fun u i wr => ∃ k : Nat, k ≤ nu ∧ k ≤ 40 ∧ i = .int .i64 k ∧ Own wr w.heap.size 25 2 u k (tcs (um C0) (um S0)) ∧ Below w.heap.size w wr) (fun _ i _ => 40 - (intOf i).toNat)
  case atStart => exact ⟨0, by omega, by omega, rfl, own_nil _ _ _ _ _, Below.refl _ _⟩
  case round =>
    obtain ⟨k, hk, hk4, rfl, hown, hf⟩ := hrel
    have hsz := hf.size
    by_cases hgo : k < nu ∧ k < 40
    · obtain ⟨hlt, hl4⟩ := hgo
      obtain ⟨b1, o1, rfl, h1⟩ := ha.two (by omega)
      obtain ⟨c1, c2⟩ := h1 k hlt
      have hnb := own_ne hown c1 (Nat.le_refl _)
      have d1 := fresh_cell hf c1
      have d2 := fresh_cell hf c2
      have i1 : (0 : Int) ≤ (k : Int) := Int.natCast_nonneg _
      have i2 : (k : Int) < (nu : Int) := by omega
      clear h1 c1 c2
      go_wp2
      go_region_held3 (fun w' => w'.cell? ⟨b1, o1 + k * 2, none⟩ = some (.int .i64 (C0 k)) ∧ w'.cell? ⟨b1, o1 + k * 2 + 1, none⟩ = some (.int .i64 (S0 k)))
        (first
          | go_keep
          | (go_split_ands
             refine ⟨?_, ?_⟩
             all_goals (refine App.cell happ ?_ hnb; assumption)))
        ((refine step_app2 _ (by rfl) _ _ _ (by rfl) w.heap.size 25 _ 16 Try.underlying22 infoT rfl _ k _ (by rfl) ((hown.kept (fresh_alloc _ _)).kept (Below.refl _ _).drew) wr.heap.size 1 (by rfl) (by rw [tcs0]; simp; rfl) (by rw [tcs1]; simp; rfl) (by rw [tcs0]; rfl) (by rw [tcs1]; rfl) (by omega) (by omega) (by simp; omega) ?_; intro g cap w1 hown1 happ))
      have hf1 := happ.below ((hf.alloc hsz _).drew) ((hown.kept (fresh_alloc _ _)).kept (Below.refl _ _).drew) (Nat.le_refl _) (by simp; omega)
      rename_i hHeld
      clear hHeld happ hown d1 d2
      go_wp2
      go_roundw
      case rel => exact ⟨k + 1, by omega, by omega, by go_num, hown1, hf1⟩
      case measure => simp [intOf]; omega
    · obtain ⟨uo, uc, rfl, hus⟩ := hown.rd
      clear hown
      have hC : ∀ i, i < k → -16384 ≤ um C0 i ∧ um C0 i ≤ 16384 := fun i _ => mod_bd _
      have hS : ∀ i, i < k → -16384 ≤ um S0 i ∧ um S0 i ≤ 16384 := fun i _ => mod_bd _
      have HC := hidd hC
      have HS := hidd hS
      clear hC hS
      generalize um C0 = C at *
      generalize um S0 = S at *
      obtain ⟨K, hK⟩ : ∃ K : Nat, (2 : Int) + (md n 63 : Int) = (K : Int) := ⟨2 + md n 63, by omega⟩
      have hmd := md_lt n (n := 63) (by decide)
      have hK2 : 2 ≤ K ∧ K ≤ 64 := by omega
      have HK := hidd hK
      clear hK
      by_cases hnk : k < nu
      all_goals
        (try have h40 : ¬ k < 40 := fun h => hgo ⟨hnk, h⟩)
        clear hgo
        go_wp2_with fail
        refine (mod_any n 63 _ (by decide) (by decide)).mono ?_
        rintro e w1 ⟨rfl, hw1⟩
        rw [hw1]
        clear hw1 w1
        go_wp2_with fail
        rw [HK.out]
        clear hmd
        refine (turns_ok (N := 64) hus HC.out HS.out (by decide) (by omega)).mono ?_
        rintro e w2 ⟨gL, hL, FL, rfl, hgL, hrL, hFL, hIL, hf2⟩
        have TL := tab_of hrL hFL (by unfold maxLen; omega)
        clear hrL hFL hIL hgL
        have hus2 := hus.fresh hf2
        go_wp2_with fail
        refine (turns_ok (N := K) hus2 HC.out HS.out (by omega) (by omega)).mono ?_
        rintro e w3 ⟨gM, hM, FM, rfl, hgM, hrM, hFM, hIM, hf3⟩
        have TM := tab_of hrM hFM (by unfold maxLen; omega)
        have TL' := TL.fresh hf3
        have hus3 := hus2.fresh hf3
        have hF3 : Below w.heap.size w w3 := fresh_trans (fresh_trans hf hf2) hf3
        have hb3 := hb.fresh hF3
        clear hrM hFM hIM hgM TL hus hus2 hf hf2 hf3 hb ha hsz HK
        have hne1 : ((64 : Int) != 64) = false := rfl
        have hne2 : ((K : Int) != (K : Int)) = false := by simp
        have hne3 : ((k : Int) != (k : Int)) = false := by simp
        go_wp2
        go_loopw [14] (fun i wr => ∃ p : Nat, p ≤ K ∧ i = .int .i64 p ∧ Below w3.heap.size w3 wr) (fun i _ => K - (intOf i).toNat)
        case atStart => exact ⟨0, by omega, rfl, Below.refl _ _⟩
        case round =>
          obtain ⟨p, hp, rfl, hf4⟩ := hrel
          by_cases hltp : p < K
          · have cL := later_cell (fresh_cell hf4 (TL'.cell p (by omega)))
            have cM := later_cell (fresh_cell hf4 (TM.cell p hltp))
            have rL := ((TL'.row p (by omega)).fresh hf4)
            have rM := ((TM.row p hltp).fresh hf4)
            have ne := later_some wr
            go_wp2
            refine wp_region_later (by kernel_rfl) (by kernel_rfl) ?_
            repeat (go_big_quiet_step (exact later_of (eqTurns_same (rL.fresh (Later.fresh _)) (rM.fresh (Later.fresh _)) (fun _ _ => rfl) (fun _ _ => rfl))))
            refine wpQuiet_nil ?_
            rintro _ ⟨z, rfl⟩
            have c5 := cL z
            have hz := fresh_trans hf4 z.fresh
            clear cL cM rL rM ne
            go_wp2
            go_roundw
            case rel => exact ⟨p + 1, hltp, by go_num, hz⟩
            case measure => simp [intOf]; omega
          · have TM' := TM.fresh hf4
            have hus4 := hus3.fresh hf4
            have hF4 := fresh_trans hF3 hf4
            have hb4 := hb3.fresh hf4
            clear TL' TM hus3 hb3 hF3 hf4 hne1 hne2
            obtain ⟨K', hK'⟩ : ∃ K' : Nat, K = K' + 1 := ⟨K - 1, by omega⟩
            have HK' := hidd hK'
            clear hK'
            have hG := atf_bd bf
            have HG := hidd hG
            clear hG
            go_wp2
            go_loopw [16, 17, 18] (fun v t i w5 => ∃ q : Nat, q ≤ 2 * k ∧ i = .int .i64 q ∧ Own w5 wr.heap.size 32 1 v q (fun i => .int .i8 (atf nv f i)) ∧ Own w5 wr.heap.size 32 1 t q (fun i => .int .i8 (still (atf nv f i))) ∧ Off v t ∧ Below wr.heap.size wr w5) (fun _ _ i _ => 2 * k - (intOf i).toNat)
            case atStart => exact ⟨0, by omega, rfl, own_nil _ _ _ _ _, own_nil _ _ _ _ _, off_nil _, Below.refl _ _⟩
            case round =>
              obtain ⟨q, hq, rfl, hv, ht, hoff, hf5⟩ := hrel
              have hsz5 := hf5.size
              by_cases hltq : q < 2 * k
              · have qa := at_any (hb4.fresh hf5) q
                by_cases hx : atf nv f q = -128
                · have E := hidd (show still (atf nv f q) = -127 by unfold still; rw [if_pos hx])
                  have hx' : (atf nv f q == -128) = true := by simp [hx]
                  clear hx
                  go_wp2_with fail
                  refine qa.mono ?_
                  rintro e w6 ⟨rfl, hw6⟩
                  rw [hw6]
                  clear qa hw6 w6
                  go_wp2_with (at_builtin; refine wpList_app1 _ rfl _ _ 23 rfl _ 32 (.int .i8 0) 1 Try.underlying23 infoI8 rfl _ q _ rfl (hv.kept (fresh_alloc _ _)) _ 1 rfl (new_cell _ _ _) rfl (by omega) (by omega) (by simp; omega) ?_)
                  intro v' w6 hv' happ
                  have hf6 := happ.below (hf5.alloc hsz5 _) (hv.kept (fresh_alloc _ _)) (Nat.le_refl _) (by simp; omega)
                  have ht6 := happ.own (ht.kept (fresh_alloc _ _)) hoff
                  have hoff6 := happ.off (ht.kept (fresh_alloc _ _)) hoff
                  have hsz6 := hf6.size
                  clear happ hv ht hoff
                  go_wp2_with (at_builtin; refine wpList_app1 _ rfl _ _ 23 rfl _ 32 (.int .i8 0) 1 Try.underlying23 infoI8 rfl _ q _ rfl (ht6.kept (fresh_alloc _ _)) _ 1 rfl (new_int _ _ E.out) rfl (by omega) (by omega) (by simp; omega) ?_)
                  intro t' w7 ht' happ
                  have hf7 := happ.below (hf6.alloc hsz6 _) (ht6.kept (fresh_alloc _ _)) (Nat.le_refl _) (by simp; omega)
                  have hv7 := happ.own (hv'.kept (fresh_alloc _ _)) hoff6.symm
                  have hoff7 := (happ.off (hv'.kept (fresh_alloc _ _)) hoff6.symm).symm
                  clear happ hv' ht6 hoff6
                  go_wp2
                  go_roundw
                  case rel => exact ⟨q + 1, by omega, by go_num, hv7, ht', hoff7, hf7⟩
                  case measure => simp [intOf]; omega
                · have E := hidd (show still (atf nv f q) = atf nv f q by unfold still; rw [if_neg hx])
                  have hx' : (atf nv f q == -128) = false := by simp [hx]
                  clear hx
                  go_wp2_with fail
                  refine qa.mono ?_
                  rintro e w6 ⟨rfl, hw6⟩
                  rw [hw6]
                  clear qa hw6 w6
                  go_wp2_with (at_builtin; refine wpList_app1 _ rfl _ _ 23 rfl _ 32 (.int .i8 0) 1 Try.underlying23 infoI8 rfl _ q _ rfl (hv.kept (fresh_alloc _ _)) _ 1 rfl (new_cell _ _ _) rfl (by omega) (by omega) (by simp; omega) ?_)
                  intro v' w6 hv' happ
                  have hf6 := happ.below (hf5.alloc hsz5 _) (hv.kept (fresh_alloc _ _)) (Nat.le_refl _) (by simp; omega)
                  have ht6 := happ.own (ht.kept (fresh_alloc _ _)) hoff
                  have hoff6 := happ.off (ht.kept (fresh_alloc _ _)) hoff
                  have hsz6 := hf6.size
                  clear happ hv ht hoff
                  go_wp2_with (at_builtin; refine wpList_app1 _ rfl _ _ 23 rfl _ 32 (.int .i8 0) 1 Try.underlying23 infoI8 rfl _ q _ rfl (ht6.kept (fresh_alloc _ _)) _ 1 rfl (new_int _ _ E.out) rfl (by omega) (by omega) (by simp; omega) ?_)
                  intro t' w7 ht' happ
                  have hf7 := happ.below (hf6.alloc hsz6 _) (ht6.kept (fresh_alloc _ _)) (Nat.le_refl _) (by simp; omega)
                  have hv7 := happ.own (hv'.kept (fresh_alloc _ _)) hoff6.symm
                  have hoff7 := (happ.off (hv'.kept (fresh_alloc _ _)) hoff6.symm).symm
                  clear happ hv' ht6 hoff6
                  go_wp2
                  go_roundw
                  case rel => exact ⟨q + 1, by omega, by go_num, hv7, ht', hoff7, hf7⟩
                  case measure => simp [intOf]; omega
              · obtain ⟨vo, vc, rfl, hrv⟩ := hv.rd
                obtain ⟨to, tc, rfl, hrt⟩ := ht.rd
                have TM5 := TM'.fresh hf5
                have hus5 := hus4.fresh hf5
                have hF5 := fresh_trans hF4 hf5
                have hq2 : 2 * k ≤ q := by omega
                clear hv ht hoff TM' hus4 hF4 hf5 hb4 hsz5
                have m0 := TM5.cell 0 (by omega)
                have bG : ∀ i, i < q → -128 ≤ atf nv f i ∧ atf nv f i ≤ 127 := fun i _ => HG.out i
                have BG := hidd bG
                clear bG
                have hqk : q = 2 * k := by omega
                have HQ := hidd hqk
                have hK1 : (K : Int) - 1 = (K' : Int) := by have := HK'.out; omega
                clear hqk
                go_wp2_with fail
                refine (rotate_ok (n := k) hrv (TM5.row 0 (by omega)) BG.out HQ.out (by omega)).mono ?_
                rintro e w6 ⟨ba, Fa, rfl, hba, hra, hFa, hf6⟩
                have rA := rot_rd hra HQ.out (by unfold maxLen; omega) hFa
                have TM6 := TM5.fresh hf6
                have hus6 := hus5.fresh hf6
                have hrv6 := hrv.fresh hf6
                have hrt6 := hrt.fresh hf6
                have hF6 := fresh_trans hF5 hf6
                clear hra hFa hba hrv hrt hus5 TM5 hF5 hf6 m0
                have m1 := TM6.cell K' (by have := HK'.out; omega)
                go_wp2_with fail
                refine (rotate_ok (n := k) hrv6 (TM6.row K' (by have := HK'.out; omega)) BG.out HQ.out (by omega)).mono ?_
                rintro e w7 ⟨bb, Fb, rfl, hbb, hrb, hFb, hf7⟩
                have rB := rot_rd hrb HQ.out (by unfold maxLen; omega) hFb
                have rA7 := rA.fresh hf7
                have TM7 := TM6.fresh hf7
                have hus7 := hus6.fresh hf7
                have hrv7 := hrv6.fresh hf7
                have hrt7 := hrt6.fresh hf7
                have hF7 := fresh_trans hF6 hf7
                clear hrb hFb hbb hrv6 hrt6 hus6 TM6 hF6 hf7 m1 rA
                go_wp2_with fail
                refine (eqNarrow_same rA7 hrt7 (fun i hi => rot_unit i HG.out rfl rfl)).mono ?_
                rintro e w8 ⟨rfl, hf8⟩
                have rB8 := rB.fresh hf8
                have TM8 := TM7.fresh hf8
                have hus8 := hus7.fresh hf8
                have hrv8 := hrv7.fresh hf8
                have hF8 := fresh_trans hF7 hf8
                clear rA7 hrt7 rB TM7 hus7 hrv7 hF7 hf8
                have m2 := TM8.cell 1 (by omega)
                go_wp2_with fail
                refine (eqTurns_same (TM8.row 1 (by omega)) hus8 (fun i hi => ?_) (fun i hi => ?_)).mono ?_
                · show (tt (C i) (S i) 1).1 = C i
                  rw [tt_one (HC.out i hi).1 (HC.out i hi).2 (HS.out i hi).1 (HS.out i hi).2]
                · show (tt (C i) (S i) 1).2 = S i
                  rw [tt_one (HC.out i hi).1 (HC.out i hi).2 (HS.out i hi).1 (HS.out i hi).2]
                rintro e w9 ⟨rfl, hf9⟩
                have rB9 := rB8.fresh hf9
                have TM9 := TM8.fresh hf9
                have hrv9 := hrv8.fresh hf9
                have hF9 := fresh_trans hF8 hf9
                clear rB8 TM8 hus8 hrv8 hF8 hf9 m2
                have hne4 : ((q : Int) != (q : Int)) = false := by simp
                go_wp2
                clear hne3 hne4 hK1
                have hK2' : K' < K := by have := HK'.out; omega
                have J1 : Hid (IntKind.i64.wrap ((K : Int) - 1) = (K' : Int)) := by show _ = _; rw [IntKind.wrap_i64]; have := HK'.out; omega
                go_loopw [24] (fun i wx => ∃ x : Nat, x ≤ k ∧ i = .int .i64 x ∧ Below w9.heap.size w9 wx) (fun i _ => k - (intOf i).toNat)
                case atStart => exact ⟨0, by omega, rfl, Below.refl _ _⟩
                case round =>
                  obtain ⟨x, hx, rfl, hfx⟩ := hrel
                  by_cases hltx : x < k
                  · obtain ⟨bv, ov, rfl, _⟩ := hrv9.one (by omega)
                    have hvc := hrv9.le
                    have hcutv := (hrv9.fresh hfx).cut (lo := 2 * x) (m := 2) (by omega)
                    have hcutm := ((TM9.row K' hK2').fresh hfx).cut2 (lo := x) (m := 1) (by omega)
                    have mk := fresh_cell hfx (TM9.cell K' hK2')
                    have rBx := rB9.fresh hfx
                    obtain ⟨b3, o3, e3, h3⟩ := rBx.one (by omega)
                    simp only [Option.some.injEq, Addr.mk.injEq, and_true] at e3
                    obtain ⟨rfl, rfl⟩ := e3
                    have s0 := h3 (2 * x) (by omega)
                    have s1 := h3 (2 * x + 1) (by omega)
                    simp only [Nat.zero_add, rot0, rot1] at s0 s1
                    clear h3 rBx
                    have i1 : (0 : Int) ≤ (x : Int) := Int.natCast_nonneg _
                    have i2 : (0 : Int) ≤ 2 * (x : Int) := by omega
                    have i3 : 2 * (x : Int) ≤ 2 * (x : Int) + 2 := by omega
                    have i4 : 2 * (x : Int) + 2 ≤ (vc : Int) := by omega
                    have i5 : (0 : Int) ≤ (K' : Int) := Int.natCast_nonneg _
                    have i6 : (K' : Int) < (K : Int) := by omega
                    have i7 : (x : Int) ≤ (x : Int) + 1 := by omega
                    have i8 : (x : Int) + 1 ≤ (k : Int) := by omega
                    have j1 := J1.out
                    have j2 : IntKind.i64.wrap (2 * (x : Int)) = 2 * (x : Int) := by rw [IntKind.wrap_i64]; omega
                    have j3 : IntKind.i64.wrap (2 * (x : Int) + 2) = 2 * (x : Int) + 2 := by rw [IntKind.wrap_i64]; omega
                    have j4 : IntKind.i64.wrap ((x : Int) + 1) = (x : Int) + 1 := by rw [IntKind.wrap_i64]; omega
                    have t1 : (2 * (x : Int)).toNat = 2 * x := by omega
                    have t2 : (2 * (x : Int) + 2).toNat = 2 * x + 2 := by omega
                    have t4 : ¬ vc = 2 * x := by omega
                    have t5 : ¬ k = x := by omega
                    go_wp2
                    go_region_held3 (fun w' => w'.cell? ⟨gM, K', none⟩ = some (.slice (some ⟨hM K', 0, none⟩) k k))
                      (first
                        | go_keep
                        | (refine fresh_cell hfq ?_; assumption))
                      ((go_at_call 11; simp only [Nat.zero_add] at hcutm; refine (rotate_ok (n := 1) (m := 2) (hcutv.fresh (Below.refl _ _).drew) (hcutm.fresh (Below.refl _ _).drew) (fun i _ => HG.out (2 * x + i)) rfl (by decide)).mono ?_; rintro e wy ⟨bc, Fc, rfl, hbc, hrc, hFc, hfq⟩))
                    rename_i hHeld
                    clear hHeld
                    have w0 := hFc 0 (by decide)
                    simp only [Nat.mul_zero, Nat.add_zero, Nat.zero_add] at w0
                    have v0 := hrc.cell (i := 0) (by decide)
                    have v1 := hrc.cell (i := 1) (by decide)
                    rw [w0.1] at v0
                    rw [w0.2] at v1
                    have s0' := fresh_cell hfq s0
                    have s1' := fresh_cell hfq s1
                    have hfy : Below w9.heap.size w9 wy := hfx.drew.trans (hfq.mono hfx.size)
                    clear w0 hrc hFc hfq s0 s1 hcutv hcutm mk hbc j1 j2 j3 j4 t1 t2 t4 t5
                    generalize Fix.cl (rc (atf nv f (2 * x)) (atf nv f (2 * x + 1)) (tC C S K' x) (tS C S K' x)) 127 = y0 at *
                    generalize Fix.cl (rs (atf nv f (2 * x)) (atf nv f (2 * x + 1)) (tC C S K' x) (tS C S K' x)) 127 = y1 at *
                    go_wp2
                    go_quiet (fail)
                    go_wp2
                    go_roundw
                    case rel => exact ⟨x + 1, hltx, by go_num, below_drewN hfy _⟩
                    case measure => simp [intOf]; omega
                  · go_wp2
                    go_ret
                    exact ⟨rfl, fresh_trans hF9 hfx⟩
end Go.Proofs.Ytonhnlahpfkalaa
