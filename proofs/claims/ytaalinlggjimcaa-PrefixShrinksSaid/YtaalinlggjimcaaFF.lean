import Derived.Test.YtaalinlggjimcaaFE
namespace Go.Proofs.Ytaalinlggjimcaa
open Go.RowKit
/-! PrefixFinds: New where it answers an error, CopyInts, Keep in one, counts. -/
set_option maxHeartbeats 400000 in
theorem isMeasure_out (n m : Int) (w : World) (h : n < 1 ∨ m < n) : Calls Try.prog 44 #[.int .i64 n, .int .i64 m] w fun e w' => e = .returned (.bool false) ∧ w' = w := by
  by_cases h1 : n < 1
  · go_enter Try.func44, Try.ntmps44
    go_wp2
    go_ret
    exact ⟨rfl, rfl⟩
  · have a2 : ¬ n ≤ m := by omega
    have a3 : m < n := by omega
    go_enter Try.func44, Try.ntmps44
    go_wp2
    go_ret
    exact ⟨rfl, rfl⟩
set_option maxHeartbeats 1600000 in
theorem new_bad (w : World) (a : Int) (h : a < 1 ∨ 16 < a) : Calls Try.prog 16 #[.int .i64 1, .int .i64 1, .int .i64 256, .int .i64 a] w fun e w' => e = .returned (.tuple #[.pointer none, .int .i64 1]) ∧ w' = w := by
  have HA : Hid (Calls Try.prog 44 #[.int .i64 1, .int .i64 4] w fun e w' => e = .returned (.bool true) ∧ w' = w) := isMeasure_in 1 4 w (by omega)
  have HB : Hid (Calls Try.prog 44 #[.int .i64 1, .int .i64 32] w fun e w' => e = .returned (.bool true) ∧ w' = w) := isMeasure_in 1 32 w (by omega)
  have HC : Hid (Calls Try.prog 44 #[.int .i64 256, .int .i64 256] w fun e w' => e = .returned (.bool true) ∧ w' = w) := isMeasure_in 256 256 w (by omega)
  have HD := hidd (isMeasure_out a 16 w h)
  clear h
  go_enter Try.func16, Try.ntmps16
  go_wp2_with (go_at_call 44; first
    | (with_reducible refine HD.out.mono ?_; rintro e w9 ⟨rfl, h9⟩; rw [h9]; clear h9)
    | (with_reducible refine HA.out.mono ?_; rintro e w9 ⟨rfl, h9⟩; rw [h9]; clear h9)
    | (with_reducible refine HB.out.mono ?_; rintro e w9 ⟨rfl, h9⟩; rw [h9]; clear h9)
    | (with_reducible refine HC.out.mono ?_; rintro e w9 ⟨rfl, h9⟩; rw [h9]; clear h9))
  go_ret2
  exact ⟨rfl, rfl⟩
theorem new_256 {S : Nat} (w : World) (hS : 1 ≤ S ∧ S ≤ 16) : Calls Try.prog 16 #[.int .i64 1, .int .i64 1, .int .i64 256, .int .i64 (S : Int)] w fun e w' => ∃ g cb nb, e = .returned (.tuple #[.pointer (some ⟨g, 0, none⟩), .int .i64 0]) ∧ PoolAt w' g cb nb 1 1 256 S (fun _ => 0) (fun _ => 0) ∧ (w.heap.size ≤ g ∧ w.heap.size ≤ cb ∧ w.heap.size ≤ nb) ∧ Below w.heap.size w w' :=
  new_any (L := 1) (W := 1) (B := 256) (S := S) w (by omega) (by omega) (by omega) hS
set_option maxRecDepth 20000 in
set_option maxHeartbeats 1600000 in
theorem copyI_any {w : World} {ao : Option Addr} {n cap : Nat} {f : Nat → Int} (h : RdA w ao 1 n cap (fun i => .int .i64 (f i))) (hn : n ≤ 17592186043904) :
    Calls Try.prog 21 #[.slice ao n cap] w fun e w' => ∃ u uc, e = .returned (.slice u n uc) ∧ RdA w' u 1 n uc (fun i => .int .i64 (f i)) ∧ Below w.heap.size w w' := by
  have hn2 : n ≤ 9223372036854775807 := by omega
  go_enter Try.func21, Try.ntmps21
  go_wp2
  go_loopw [3, 4] (fun v i wr => ∃ k : Nat, k ≤ n ∧ i = .int .i64 k ∧ Own wr w.heap.size 3 1 v k (fun j => .int .i64 (f j)) ∧ Below w.heap.size w wr) (fun _ i _ => n - (intOf i).toNat)
  case atStart => exact ⟨0, by omega, rfl, own_nil _ _ _ _ _, Below.refl _ _⟩
  case round =>
    obtain ⟨k, hk, rfl, hown, hf⟩ := hrel
    have hsz := hf.size
    by_cases hlt : k < n
    · obtain ⟨b1, o1, rfl, h1⟩ := (h.fresh hf).one (by omega)
      have d := h1 k hlt
      have hle := h.le
      have HX : Hid (∀ (w0 : World) (t : TypeId), (w0.alloc (.cells #[.int .i64 (f k)] t)).cell? ⟨w0.heap.size, 0, none⟩ = some ((fun j => Value.int .i64 (f j)) k)) := fun w0 t => new_cell _ _ _
      clear h1
      generalize f k = y at d HX
      go_wp2_with (at_builtin; refine wpList_app1 _ rfl _ _ 22 rfl w.heap.size 3 (.int .i64 0) 8 Try.underlying22 infoI rfl _ k (fun j => .int .i64 (f j)) rfl (hown.kept (fresh_alloc _ _)) _ 1 rfl (HX.out _ _) rfl (by omega) (by omega) (by simp; omega) ?_)
      intro v' w1 hown' happ
      have hf1 := happ.below (hf.alloc hsz _) (hown.kept (fresh_alloc _ _)) (Nat.le_refl _) (by simp; omega)
      clear happ hown
      go_wp2
      go_roundw
      case rel => exact ⟨k + 1, by omega, by go_num, hown', hf1⟩
      case measure => simp [intOf]; omega
    · obtain rfl : k = n := by omega
      obtain ⟨u, uc, rfl, hu⟩ := hown.rd
      go_wp2
      go_ret
      exact ⟨u, uc, rfl, hu, hf⟩
theorem Long.uniq {C : Nat} {L : List Nd} {P : List (List Int)} {k b o k' b' o' : Nat} (h : Long C L P k b o) (h' : Long C L P k' b' o') : k = k' := by
  have key : ∀ {k b o k' b' o'}, Long C L P k b o → Long C L P k' b' o' → ¬ k < k' := fun {k b o k' b' o'} h h' hlt => by
    rcases h'.adr with ⟨e, _⟩ | ⟨x, hx, e, _⟩
    · have := congrArg List.length e
      rw [List.length_take, Nat.min_eq_left h'.le] at this
      simp at this
      omega
    · exact h.no k' hlt h'.le x hx e
  have h1 := key h h'
  have h2 := key h' h
  omega
/-- a list of the call's own: nothing, or a row -/
theorem Own.list {w : World} {base : Nat} {v : Value} {n : Nat} {cs : Nat → Value} (h : Own w base 3 1 v n cs) : (v = .slice none 0 0 ∧ n = 0) ∨ ∃ g cap, v = .slice (some ⟨g, 0, none⟩) n cap ∧ v.ownBlock = some g ∧ RdA w (some ⟨g, 0, none⟩) 1 n cap cs := by
  obtain ⟨ao, cap, e, hrd⟩ := h.rd
  rcases h.2 with ⟨rfl, rfl⟩ | ⟨g, cap', cur, rfl, _⟩
  · exact .inl ⟨rfl, rfl⟩
  · injection e with e1 e2 e3
    subst e1 e3
    exact .inr ⟨g, cap', rfl, rfl, hrd⟩
theorem keep_any {w : World} {c : Ca} {A : Nat → Prop} {L : List Nd} {N : Nat} (h : CacheAt w c A L N) (hN : N ≤ 4611686018427387904) {cb nb Y W S : Nat} {cnt : Nat → Nat} {num : Nat → Int} (hp : PoolAt w c.pg cb nb Y W c.B S cnt num) (o1 : ¬ A c.pg) (o2 : ¬ A cb) (o3 : ¬ A nb)
    {to : Option Addr} {T cap : Nat} {t : Nat → Int} (ht : RdA w to 1 T cap (fun i => .int .i64 (t i))) (hfit : ∀ i, i < T → fits (t i)) {n : Nat} {v : Value} {base : Nat} {gn : Nat → Nat} (hb : Own w base 3 1 v n (fun i => .int .i64 (gn i : Int))) (ob : ∀ z, v.ownBlock = some z → ¬ A z ∧ z ≠ cb)
    (hn : n = T / c.S) (hnB : n ≤ c.B) (hblk : ∀ i, i < n → gn i < c.B) (hc : ∀ i, i < n → cnt (gn i) = 1) (hno : ∀ i, i < n → ∀ x ∈ L, x.blk ≠ gn i) (hinj : ∀ i j, i < j → j < n → gn i ≠ gn j) {k0 b0 o0 : Nat} (hl : Long c.C L (pcL t c.S n) k0 b0 o0) :
    Calls Try.prog 12 #[.pointer (some ⟨c.C, 0, none⟩), .slice to T cap, v] w fun e w' => e = .returned (.int .i64 0) ∧ ∃ A' L' news, Kept w w' c A L N cb nb Y W S cnt num (pcL t c.S n) gn k0 A' L' news := by
  by_cases hk : k0 = n
  · subst hk
    have key : ∀ {bo : Option Addr} {bcap : Nat}, v = .slice bo k0 bcap → RdA w bo 1 k0 bcap (fun i => .int .i64 (gn i : Int)) → (bo = none → bcap = 0) → (∀ a, bo = some a → ∃ bb, a = ⟨bb, 0, none⟩) → Calls Try.prog 12 #[.pointer (some ⟨c.C, 0, none⟩), .slice to T cap, v] w fun e w' => e = .returned (.int .i64 0) ∧ ∃ A' L' news, Kept w w' c A L N cb nb Y W S cnt num (pcL t c.S k0) gn k0 A' L' news := by
      rintro bo bcap rfl hr h1 h2
      refine (keep_known h hN hp ht hfit hr h1 h2 hn (Nat.le_refl _) hnB hblk (fun i hi => by rw [hc i hi]; decide) (fun k b o hl' => hl'.uniq hl)).mono ?_
      rintro e w' ⟨rfl, hC, hch⟩
      have e0 : (pcL t c.S k0).length - k0 = 0 := by rw [pcL_len]; omega
      refine ⟨rfl, A, L, [], ⟨by rw [e0]; exact ⟨by simp, rfl, fun i hi => absurd hi (by omega)⟩, hC, ?_, hch.imp (fun z _ e => Or.inl e), fun _ h => h, fun _ h => .inl h⟩⟩
      rw [e0]
      exact hp.chg hch o1 o2 o3
    rcases hb.list with ⟨e1, e2⟩ | ⟨g, bcap, e1, e2, hr⟩
    · refine key (bo := none) (bcap := 0) (by rw [e2]; exact e1) (by rw [e2]; exact ⟨Nat.le_refl _, Nat.zero_le _, fun h => absurd h (by omega)⟩) (fun _ => rfl) (fun a e => by cases e)
    · exact key e1 hr (fun e => by cases e) (fun a e => by cases e; exact ⟨g, rfl⟩)
  · have hle := hl.le
    rw [pcL_len] at hle
    rcases hb.list with ⟨e1, e2⟩ | ⟨g, bcap, e1, e2, hr⟩
    · omega
    · rw [e1]
      refine (keep_ok h hN hp o1 o2 o3 ht hfit hr (ob g e2).1 (ob g e2).2 hn (Nat.le_refl _) hnB hblk (fun i hi => by rw [hc i hi]; decide) (fun i hi => by rw [hc i hi]; decide) (fun k b o hl' => ?_)).mono ?_
      · have := hl'.uniq hl
        subst this
        have := hr.le
        exact ⟨by omega, ⟨fun i hi x hx => hno (k + i) (by omega) x hx, fun i j h1 h2 => hinj _ _ (by omega) (by omega)⟩⟩
      · rintro e w' ⟨k, b, o, A', L', news, rfl, hl', hK⟩
        have := hl'.uniq hl
        subst this
        exact ⟨rfl, A', L', news, hK⟩
end Go.Proofs.Ytaalinlggjimcaa
