import Derived.Test.YtaalinlggjimcaaXQ
import Derived.Test.YtaalinlggjimcaaXR
namespace Go.Proofs.Ytaalinlggjimcaa
open Go.RowKit
/-! Shrink. -/
theorem forget_any {w : World} {c : Ca} {A : Nat → Prop} {L : List Nd} {N : Nat} (h : CacheAt w c A L N) {cb nb Y W S : Nat} {cnt : Nat → Nat} {num : Nat → Int} (hp : PoolAt w c.pg cb nb Y W c.B S cnt num) {x : Nd} (hx : x ∈ L) (h0 : lg L x.path = 0) (hc : cnt x.blk = 1) (o1 : ¬ A c.pg) (o2 : ¬ A cb) (o3 : ¬ A nb) :
    Calls Try.prog 43 #[.pointer (some ⟨c.C, 0, none⟩), .pointer (some ⟨x.at_, 0, none⟩)] w fun e w' => e = .returned (.tuple #[]) ∧ CacheAt w' c A (delL L x) N ∧ PoolAt w' c.pg cb nb Y W c.B S (updN cnt x.blk 0) num ∧ Chg w w' (fun b => A b ∨ b = cb) := by
  have hxm : x ∈ withK L x.key := by unfold withK; simp [hx]
  have hpos : 0 < (withK L x.key).length := List.length_pos_of_mem hxm
  obtain ⟨n, hn⟩ : ∃ n, n + 1 = (withK L x.key).length := ⟨(withK L x.key).length - 1, by omega⟩
  by_cases e : n = 0
  · subst e
    exact forget_last h hp hx h0 hc o1 o2 o3 hn
  · exact forget_more h hp hx h0 hc o1 o2 o3 (by omega) hn
/-- j times the least lately used goes -/
inductive Shr (B : Nat) (L : List Nd) (cnt : Nat → Nat) : Nat → List Nd → (Nat → Nat) → Prop
  | nil : Shr B L cnt 0 L cnt
  | step {j : Nat} {L1 : List Nd} {c1 : Nat → Nat} {x : Nd} : Shr B L cnt j L1 c1 → x ∈ L1 → LeastTo L1 c1 B x.ptr → Shr B L cnt (j + 1) (delL L1 x) (updN c1 x.blk 0)
theorem del_len {L : List Nd} {x : Nd} (hn : L.Nodup) (hx : x ∈ L) : (delL L x).length + 1 = L.length := by
  have e := count_del (fun _ => true) L hn hx
  rw [List.filter_eq_self.2 (fun _ _ => rfl), List.filter_eq_self.2 (fun _ _ => rfl), if_pos rfl] at e
  exact e
theorem ptr_inj {x y : Nd} (h : x.ptr = y.ptr) : x.at_ = y.at_ := by
  unfold Nd.ptr at h
  injection h with h
  injection h with h
  injection h
set_option maxRecDepth 20000 in
set_option maxHeartbeats 1600000 in
theorem shrink_any {w : World} {c : Ca} {A : Nat → Prop} {L : List Nd} {N : Nat} (h : CacheAt w c A L N) {cb nb Y W S : Nat} {cnt : Nat → Nat} {num : Nat → Int} (hp : PoolAt w c.pg cb nb Y W c.B S cnt num) (o1 : ¬ A c.pg) (o2 : ¬ A cb) (o3 : ¬ A nb) (n : Int) :
    Calls Try.prog 13 #[.pointer (some ⟨c.C, 0, none⟩), .int .i64 n] w fun e w' => ∃ j : Nat, e = .returned (.int .i64 (j : Int)) ∧ ∃ (L' : List Nd) (cnt' : Nat → Nat), Shr c.B L cnt j L' cnt' ∧ ((j : Int) ≤ n ∨ j = 0) ∧ (n ≤ (j : Int) ∨ LeastTo L' cnt' c.B nilP) ∧ CacheAt w' c A L' N ∧ PoolAt w' c.pg cb nb Y W c.B S cnt' num ∧ Chg w w' (fun b => A b ∨ b = cb) := by
  have hlen := h.well.len
  have hB := h.well.hB
  have HH := hidd (And.intro h hp)
  clear h hp
  go_enter Try.func13, Try.ntmps13
  go_wp2
  go_loopw [5, 6] (fun vi _ wr => ∃ (j : Nat) (L' : List Nd) (cnt' : Nat → Nat), vi = .int .i64 (j : Int) ∧ j + L'.length = L.length ∧ Hid (((j : Int) ≤ n ∨ j = 0) ∧ Shr c.B L cnt j L' cnt' ∧ CacheAt wr c A L' N ∧ PoolAt wr c.pg cb nb Y W c.B S cnt' num ∧ Chg w wr (fun b => A b ∨ b = cb))) (fun vi _ _ => L.length - (intOf vi).toNat)
  case atStart => exact ⟨0, L, cnt, rfl, by omega, .inr rfl, .nil, HH.out.1, HH.out.2, Chg.refl _ _⟩
  case round =>
    clear HH
    obtain ⟨j, L', cnt', rfl, hj, H⟩ := hrel
    by_cases hlt : (j : Int) < n
    · have HL := hidd (least_any H.out.2.2.1 H.out.2.2.2.1)
      go_wp2_with fail
      refine HL.out.mono ?_
      rintro e w4 ⟨⟨v4, rfl, ⟨rfl, hno⟩ | ⟨x, hx, rfl, hmx, hxB, hall⟩⟩, f4⟩
      · have HNO := hidd hno
        clear hno HL
        unfold nilP
        go_wp2
        go_ret
        exact ⟨j, rfl, L', cnt', H.out.2.1, H.out.1, .inr (.inl ⟨rfl, HNO.out⟩), H.out.2.2.1.fresh f4, H.out.2.2.2.1.fresh f4, H.out.2.2.2.2.post f4⟩
      · have HX := hidd (And.intro hx (show LeastTo L' cnt' c.B x.ptr from .inr ⟨x, hx, rfl, hmx, hxB, hall⟩))
        have HF := hidd (forget_any (H.out.2.2.1.fresh f4) (H.out.2.2.2.1.fresh f4) hx hmx.1 hmx.2 o1 o2 o3)
        have hpos : 0 < L'.length := List.length_pos_of_mem hx
        have HD := hidd (del_len H.out.2.2.1.well.nodup hx)
        clear hx hmx hxB hall HL
        unfold Nd.ptr
        go_wp2_with (go_at_call 43; refine HF.out.mono ?_; rintro e w5 ⟨rfl, C5, P5, G5⟩)
        go_roundw
        case rel => exact ⟨j + 1, delL L' x, updN cnt' x.blk 0, by go_num, by have := HD.out; omega, ⟨.inl (by omega), .step H.out.2.1 HX.out.1 HX.out.2, C5, P5, (H.out.2.2.2.2.post f4).trans G5 (fun _ _ e => e)⟩⟩
        case measure => simp [intOf]; omega
    · go_wp2
      go_ret
      exact ⟨j, rfl, L', cnt', H.out.2.1, H.out.1, .inl (by omega), H.out.2.2.1, H.out.2.2.2.1, H.out.2.2.2.2⟩
end Go.Proofs.Ytaalinlggjimcaa
