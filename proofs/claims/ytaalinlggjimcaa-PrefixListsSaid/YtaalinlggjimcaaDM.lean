import Derived.Test.YtaalinlggjimcaaFG
import Derived.Deep.DeepCutAuto
import Derived.Test.YtaalinlggjimcaaDB
import Derived.Laws.OwnMore
namespace Go.Proofs.Ytaalinlggjimcaa
open Go.RowKit
/-! The reference's pool in memory; its small calls. -/
theorem infoSI8 : (Try.prog.info? 90).map (fun i => (i.zero, i.size, i.bytes)) = some (some (.slice none 0 0), 1, 24) := by kernel_rfl
def seven (a b c d e f g : Value) : Nat → Value := fun i => match i with | 0 => a | 1 => b | 2 => c | 3 => d | 4 => e | 5 => f | _ => g
/-- what stays -/
structure Rx where
  g : Nat
  cb : Nat
  cc : Nat
  kb : Nat
  kc : Nat
  vb : Nat
  vc : Nat
  L : Nat
  W : Nat
  B : Nat
  S : Nat
  n : Nat
/-- what changes -/
structure Ry where
  cnt : Nat → Nat
  num : Nat → Int
  ka : Nat → Nat
  va : Nat → Nat
  kx : Nat → Nat
  vx : Nat → Nat
/-- a list of W numbers from o on -/
def InAt (w : World) (b cap W : Nat) (num : Nat → Int) (o : Nat) : Prop := W ≤ cap ∧ cap ≤ maxLen ∧ ∃ F, w.rowIs b 118 cap F ∧ ∀ j, j < W → F j = .int .i8 (num (o + j))
structure RefAt (w : World) (x : Rx) (y : Ry) : Prop where
  row : w.rowIs x.g 113 7 (seven (.int .i64 x.L) (.int .i64 x.W) (.int .i64 x.B) (.int .i64 x.S) (.slice (some ⟨x.cb, 0, none⟩) x.B x.cc) (.slice (some ⟨x.kb, 0, none⟩) x.n x.kc) (.slice (some ⟨x.vb, 0, none⟩) x.n x.vc))
  cnts : ∃ F, w.rowIs x.cb 3 x.cc F ∧ ∀ i, i < x.B → F i = .int .i64 (y.cnt i)
  ks : ∃ F, w.rowIs x.kb 90 x.kc F ∧ ∀ i, i < x.n → F i = .slice (some ⟨y.ka i, 0, none⟩) x.W (y.kx i)
  vs : ∃ F, w.rowIs x.vb 90 x.vc F ∧ ∀ i, i < x.n → F i = .slice (some ⟨y.va i, 0, none⟩) x.W (y.vx i)
  kin : ∀ i, i < x.n → InAt w (y.ka i) (y.kx i) x.W y.num (i * (2 * x.W))
  vin : ∀ i, i < x.n → InAt w (y.va i) (y.vx i) x.W y.num (i * (2 * x.W) + x.W)
  kv : x.kb ≠ x.vb
  hn : x.n = x.B * x.S * x.L
  caps : (x.B ≤ x.cc ∧ x.cc ≤ maxLen) ∧ (x.n ≤ x.kc ∧ x.kc ≤ maxLen) ∧ (x.n ≤ x.vc ∧ x.vc ≤ maxLen)
  hL : 1 ≤ x.L ∧ x.L ≤ 4
  hW : 1 ≤ x.W ∧ x.W ≤ 32
  hB : 1 ≤ x.B ∧ x.B ≤ 256
  hS : 1 ≤ x.S ∧ x.S ≤ 16
theorem InAt.chg {w w' : World} {T : Nat → Prop} (c : Chg w w' T) {b cap W o : Nat} {num : Nat → Int} (h : InAt w b cap W num o) (hb : ¬ T b) : InAt w' b cap W num o := by
  obtain ⟨h1, h2, F, hr, hF⟩ := h
  exact ⟨h1, h2, F, c.row hr hb, hF⟩
theorem InAt.rd {w : World} {b cap W o : Nat} {num : Nat → Int} (h : InAt w b cap W num o) : RdA w (some ⟨b, 0, none⟩) 1 W cap (fun j => .int .i8 (num (o + j))) := by
  obtain ⟨h1, h2, F, hr, hF⟩ := h
  exact ⟨h1, h2, fun _ => ⟨b, 0, rfl, fun j hj => by rw [Nat.zero_add, hr.cell (by omega), hF j (by omega)]⟩⟩
theorem InAt.apart {w : World} {b cap W o m u : Nat} {num : Nat → Int} {t : TypeId} {G : Nat → Value} (h : InAt w b cap W num o) (k : w.rowIs u t m G) (hne : 118 ≠ t) : b ≠ u := by
  obtain ⟨_, _, F, hr, _⟩ := h
  exact type_apart hr k hne
theorem RefAt.chg {w w' : World} {x : Rx} {y : Ry} (h : RefAt w x y) {T : Nat → Prop} (c : Chg w w' T) (h1 : ¬ T x.g) (h2 : ¬ T x.cb) (h3 : ¬ T x.kb) (h4 : ¬ T x.vb) (h5 : ∀ i, i < x.n → ¬ T (y.ka i)) (h6 : ∀ i, i < x.n → ¬ T (y.va i)) : RefAt w' x y := by
  obtain ⟨F1, r1, f1⟩ := h.cnts
  obtain ⟨F2, r2, f2⟩ := h.ks
  obtain ⟨F3, r3, f3⟩ := h.vs
  exact ⟨c.row h.row h1, ⟨F1, c.row r1 h2, f1⟩, ⟨F2, c.row r2 h3, f2⟩, ⟨F3, c.row r3 h4, f3⟩, fun i hi => (h.kin i hi).chg c (h5 i hi), fun i hi => (h.vin i hi).chg c (h6 i hi), h.kv, h.hn, h.caps, h.hL, h.hW, h.hB, h.hS⟩
theorem RefAt.fresh {w w' : World} {x : Rx} {y : Ry} (h : RefAt w x y) (f : Below w.heap.size w w') : RefAt w' x y := h.chg (Chg.of_below (fun _ => False) f) id id id id (fun _ _ => id) (fun _ _ => id)
theorem RefAt.cells {w : World} {x : Rx} {y : Ry} (h : RefAt w x y) :
    w.cell? ⟨x.g, 0, none⟩ = some (.int .i64 x.L) ∧ w.cell? ⟨x.g, 1, none⟩ = some (.int .i64 x.W) ∧ w.cell? ⟨x.g, 2, none⟩ = some (.int .i64 x.B) ∧ w.cell? ⟨x.g, 3, none⟩ = some (.int .i64 x.S) ∧ w.cell? ⟨x.g, 4, none⟩ = some (.slice (some ⟨x.cb, 0, none⟩) x.B x.cc) ∧ w.cell? ⟨x.g, 5, none⟩ = some (.slice (some ⟨x.kb, 0, none⟩) x.n x.kc) ∧ w.cell? ⟨x.g, 6, none⟩ = some (.slice (some ⟨x.vb, 0, none⟩) x.n x.vc) :=
  ⟨h.row.cell (i := 0) (by decide), h.row.cell (i := 1) (by decide), h.row.cell (i := 2) (by decide), h.row.cell (i := 3) (by decide), h.row.cell (i := 4) (by decide), h.row.cell (i := 5) (by decide), h.row.cell (i := 6) (by decide)⟩
theorem RefAt.count {w : World} {x : Rx} {y : Ry} (h : RefAt w x y) {b : Nat} (hb : b < x.B) : w.cell? ⟨x.cb, b, none⟩ = some (.int .i64 (y.cnt b)) := by
  obtain ⟨F, r, f⟩ := h.cnts
  rw [r.cell (i := b) (by have := h.caps.1.1; omega), f b hb]
set_option maxHeartbeats 800000 in
theorem zeros_any (n : Nat) (w : World) (h0 : 0 < n) (hn : n ≤ 1000000) :
    Calls Try.prog 68 #[.int .i64 n] w fun e w' => ∃ b cap, e = .returned (.slice (some ⟨b, 0, none⟩) n cap) ∧ w.heap.size ≤ b ∧ InAt w' b cap n (fun _ => 0) 0 ∧ Below w.heap.size w w' := by
  go_enter Try.func68, Try.ntmps68
  go_wp2
  go_loopw [3, 4] (fun v i wr => ∃ k : Nat, k ≤ n ∧ i = .int .i64 k ∧ Own wr w.heap.size 118 1 v k (fun _ => .int .i8 0) ∧ Below w.heap.size w wr) (fun _ i _ => n - (intOf i).toNat)
  case atStart => exact ⟨0, by omega, rfl, own_nil _ _ _ _ _, Below.refl _ _⟩
  case round =>
    obtain ⟨k, hk, rfl, hown, hf⟩ := hrel
    have hsz := hf.size
    by_cases hlt : k < n
    · go_wp2_with (at_builtin; refine wpList_app1 _ rfl _ _ 90 rfl w.heap.size 118 (.int .i8 0) 1 Try.underlying90 infoI8 rfl _ k _ rfl (hown.kept (fresh_alloc _ _)) _ 1 rfl (new_cell _ _ _) rfl (by omega) (by omega) (by simp; omega) ?_)
      intro v' w1 hown' happ
      have hf1 := happ.below (hf.alloc hsz _) (hown.kept (fresh_alloc _ _)) (Nat.le_refl _) (by simp; omega)
      clear happ hown
      go_wp2
      go_roundw
      case rel => exact ⟨k + 1, by omega, by go_num, hown', hf1⟩
      case measure => simp [intOf]; omega
    · obtain rfl : k = n := by omega
      obtain ⟨b, c, F, rfl, h1, h2, h3, hr, hF⟩ := Own.row1 hown h0
      go_wp2
      go_ret
      exact ⟨b, c, rfl, h3, ⟨h1, h2, F, hr, hF⟩, hf⟩
set_option maxHeartbeats 800000 in
theorem rleft_any {w : World} {x : Rx} {y : Ry} (h : RefAt w x y) :
    Calls Try.prog 63 #[.pointer (some ⟨x.g, 0, none⟩)] w fun e w' => e = .returned (.int .i64 (freeN y.cnt x.B : Nat)) ∧ w' = w := by
  obtain ⟨_, _, c2, _, c4, _, _⟩ := h.cells
  have hB := h.hB
  have hcc := h.caps.1
  have hcm : x.cc ≤ 9223372036854775807 := by have := hcc.2; unfold maxLen at this; omega
  have HC := hidd (fun i hi => h.count (b := i) hi)
  clear h
  go_enter Try.func63, Try.ntmps63
  go_wp2
  go_loopw [3, 4] (fun v i wr => ∃ k : Nat, k ≤ x.B ∧ i = .int .i64 k ∧ v = .int .i64 (freeN y.cnt k : Nat) ∧ wr = w) (fun _ i _ => x.B - (intOf i).toNat)
  case atStart => exact ⟨0, by omega, rfl, rfl, rfl⟩
  case round =>
    obtain ⟨k, hk, rfl, rfl, rfl⟩ := hrel
    have hle := freeN_le y.cnt k
    by_cases hlt : k < x.B
    · have d := HC.out k hlt
      have hs : Hid (freeN y.cnt (k + 1) = freeN y.cnt k + (if y.cnt k = 0 then 1 else 0)) := rfl
      generalize hq : y.cnt k = q at *
      clear hq
      by_cases h0 : q = 0
      · subst h0
        go_wp2
        go_roundw
        case rel => exact ⟨k + 1, by omega, by go_num, by rw [hs.out]; simp, trivial⟩
        case measure => simp [intOf]; omega
      · have hb : ((q : Int) == 0) = false := by simp [h0]
        go_wp2
        go_roundw
        case rel => exact ⟨k + 1, by omega, by go_num, by rw [hs.out]; simp [h0], trivial⟩
        case measure => simp [intOf]; omega
    · obtain rfl : k = x.B := by omega
      go_wp2
      go_ret
      exact ⟨rfl, rfl⟩
set_option maxRecDepth 20000 in
set_option maxHeartbeats 1600000 in
theorem rcount_any {w : World} {x : Rx} {y : Ry} (h : RefAt w x y) (k : Int) :
    Calls Try.prog 58 #[.pointer (some ⟨x.g, 0, none⟩), .int .i64 k] w fun e w' => e = .returned (.int .i64 (cntI y.cnt x.B k : Nat)) ∧ w' = w := by
  obtain ⟨_, _, c2, _, c4, _, _⟩ := h.cells
  have hB := h.hB
  have hcc := h.caps.1
  have hcm : x.cc ≤ 9223372036854775807 := by have := hcc.2; unfold maxLen at this; omega
  by_cases h0 : k < 0
  · have e0 : Hid (cntI y.cnt x.B k = 0) := by show _ = _; unfold cntI; rw [if_neg (by omega)]
    clear h
    go_enter Try.func58, Try.ntmps58
    go_wp2
    go_ret
    exact ⟨by rw [e0.out]; rfl, rfl⟩
  · by_cases h1 : (x.B : Int) ≤ k
    · have e0 : Hid (cntI y.cnt x.B k = 0) := by show _ = _; unfold cntI; rw [if_neg (by omega)]
      have hd : decide (k < 0) = false := by simpa using h0
      clear h
      go_enter Try.func58, Try.ntmps58
      go_wp2
      go_ret
      exact ⟨by rw [e0.out]; rfl, rfl⟩
    · obtain ⟨b, rfl⟩ : ∃ b : Nat, k = b := ⟨k.toNat, by omega⟩
      have hb : b < x.B := by omega
      have d := h.count hb
      have e0 := hidd (cntI_nat y.cnt hb)
      have hd : decide ((b : Int) < 0) = false := by simp
      have hd2 : decide ((x.B : Int) ≤ b) = false := by simp; omega
      clear h
      go_enter Try.func58, Try.ntmps58
      go_wp2
      go_ret
      exact ⟨by rw [e0.out]; rfl, rfl⟩
set_option maxRecDepth 20000 in
set_option maxHeartbeats 1600000 in
theorem rused_any {w : World} {x : Rx} {y : Ry} (h : RefAt w x y) (k : Int) :
    Calls Try.prog 74 #[.pointer (some ⟨x.g, 0, none⟩), .int .i64 k] w fun e w' => e = .returned (.bool (decide (cntI y.cnt x.B k ≠ 0))) ∧ w' = w := by
  obtain ⟨_, _, c2, _, c4, _, _⟩ := h.cells
  have hB := h.hB
  have hcc := h.caps.1
  have hcm : x.cc ≤ 9223372036854775807 := by have := hcc.2; unfold maxLen at this; omega
  by_cases h0 : k < 0
  · have e0 : Hid (cntI y.cnt x.B k = 0) := by show _ = _; unfold cntI; rw [if_neg (by omega)]
    have g0 : decide ((0 : Int) ≤ k) = false := by simp; omega
    clear h
    go_enter Try.func74, Try.ntmps74
    go_wp2
    go_ret
    exact ⟨by rw [e0.out]; rfl, rfl⟩
  · have g0 : decide ((0 : Int) ≤ k) = true := by simp; omega
    by_cases h1 : (x.B : Int) ≤ k
    · have e0 : Hid (cntI y.cnt x.B k = 0) := by show _ = _; unfold cntI; rw [if_neg (by omega)]
      have hd : decide (k < (x.B : Int)) = false := by simp; omega
      clear h
      go_enter Try.func74, Try.ntmps74
      go_wp2
      go_ret
      exact ⟨by rw [e0.out]; rfl, rfl⟩
    · obtain ⟨b, rfl⟩ : ∃ b : Nat, k = b := ⟨k.toNat, by omega⟩
      have hb : b < x.B := by omega
      have d := h.count hb
      have e0 := hidd (cntI_nat y.cnt hb)
      have hd2 : decide ((b : Int) < (x.B : Int)) = true := by simp; omega
      clear h
      go_enter Try.func74, Try.ntmps74
      go_wp2
      go_ret
      refine ⟨ret_bool ?_, rfl⟩
      rw [e0.out]
      by_cases e : y.cnt b = 0
      · simp [e]
      · simp [e]; omega
end Go.Proofs.Ytaalinlggjimcaa
namespace Go.Proofs.Ytaalinlggjimcaa
open Go.RowKit
/-! The reference's Hold, Drop. -/
theorem RefAt.set_cnt {w : World} {x : Rx} {y : Ry} (h : RefAt w x y) (b v : Nat) : RefAt (w.setCell ⟨x.cb, b, none⟩ (.int .i64 v)) x { y with cnt := updN y.cnt b v } := by
  have c := Chg.of_set w x.cb b (.int .i64 v)
  obtain ⟨F1, r1, f1⟩ := h.cnts
  obtain ⟨F2, r2, f2⟩ := h.ks
  obtain ⟨F3, r3, f3⟩ := h.vs
  refine ⟨c.row h.row (type_apart h.row r1 (by decide)), ⟨_, r1.set b _, fun i hi => ?_⟩, ⟨F2, c.row r2 (type_apart r2 r1 (by decide)), f2⟩, ⟨F3, c.row r3 (type_apart r3 r1 (by decide)), f3⟩, fun i hi => (h.kin i hi).chg c ((h.kin i hi).apart r1 (by decide)), fun i hi => (h.vin i hi).chg c ((h.vin i hi).apart r1 (by decide)), h.kv, h.hn, h.caps, h.hL, h.hW, h.hB, h.hS⟩
  show (if i = b then _ else F1 i) = .int .i64 ((updN y.cnt b v i : Nat) : Int)
  unfold updN
  by_cases e : i = b
  · rw [if_pos e, if_pos e]
  · rw [if_neg e, if_neg e, f1 i hi]
set_option maxHeartbeats 400000 in
theorem rhold_bad {w : World} {x : Rx} {y : Ry} (h : RefAt w x y) (k : Int) (h0 : cntI y.cnt x.B k = 0) :
    Calls Try.prog 62 #[.pointer (some ⟨x.g, 0, none⟩), .int .i64 k] w fun e w' => e = .returned (.int .i64 61) ∧ w' = w := by
  have HC := hidd (rused_any h k)
  rw [h0] at HC
  have hf : decide ((0 : Nat) ≠ 0) = false := rfl
  rw [hf] at HC
  clear h h0 hf
  go_enter Try.func62, Try.ntmps62
  go_wp2_with (go_at_call 74; with_reducible refine HC.out.mono ?_; rintro e w9 ⟨rfl, h9⟩; rw [h9]; clear h9)
  go_ret
  exact ⟨rfl, rfl⟩
set_option maxHeartbeats 400000 in
theorem rdrop_bad {w : World} {x : Rx} {y : Ry} (h : RefAt w x y) (k : Int) (h0 : cntI y.cnt x.B k = 0) :
    Calls Try.prog 71 #[.pointer (some ⟨x.g, 0, none⟩), .int .i64 k] w fun e w' => e = .returned (.int .i64 61) ∧ w' = w := by
  have HC := hidd (rused_any h k)
  rw [h0] at HC
  have hf : decide ((0 : Nat) ≠ 0) = false := rfl
  rw [hf] at HC
  clear h h0 hf
  go_enter Try.func71, Try.ntmps71
  go_wp2_with (go_at_call 74; with_reducible refine HC.out.mono ?_; rintro e w9 ⟨rfl, h9⟩; rw [h9]; clear h9)
  go_ret
  exact ⟨rfl, rfl⟩
set_option maxRecDepth 20000 in
set_option maxHeartbeats 800000 in
theorem rhold_ok {w : World} {x : Rx} {y : Ry} {b : Nat} (h : RefAt w x y) (hb : b < x.B) (h0 : y.cnt b ≠ 0) (hc : y.cnt b ≤ 4611686018427387904) :
    Calls Try.prog 62 #[.pointer (some ⟨x.g, 0, none⟩), .int .i64 b] w fun e w' => e = .returned (.int .i64 0) ∧ RefAt w' x { y with cnt := updN y.cnt b (y.cnt b + 1) } ∧ Chg w w' (fun z => z = x.cb) := by
  have HC := hidd (rused_any h b)
  rw [cntI_nat y.cnt hb, decide_eq_true h0] at HC
  obtain ⟨_, _, _, _, c4, _, _⟩ := h.cells
  have d := h.count hb
  have hB := h.hB
  have hcc := h.caps.1
  have hcm : x.cc ≤ 9223372036854775807 := by have := hcc.2; unfold maxLen at this; omega
  obtain ⟨F1, r1, _⟩ := h.cnts
  have fz := r1.frozen
  have H1 := hidd (h.set_cnt b (y.cnt b + 1))
  have e1 : (y.cnt b : Int) + 1 = ((y.cnt b + 1 : Nat) : Int) := by push_cast; rfl
  obtain ⟨c1, hc1⟩ : ∃ c1, c1 = y.cnt b + 1 := ⟨_, rfl⟩
  rw [← hc1] at e1 H1 ⊢
  have hcl : c1 ≤ 4611686018427387905 := by omega
  clear h h0 r1 hc1
  generalize y.cnt b = c at d e1 hc
  go_enter Try.func62, Try.ntmps62
  go_wp2_with (go_at_call 74; with_reducible refine HC.out.mono ?_; rintro e w9 ⟨rfl, h9⟩; rw [h9]; clear h9)
  go_ret
  exact ⟨rfl, H1.out, Chg.of_set _ _ _ _⟩
set_option maxRecDepth 20000 in
set_option maxHeartbeats 800000 in
theorem rdrop_ok {w : World} {x : Rx} {y : Ry} {b : Nat} (h : RefAt w x y) (hb : b < x.B) (h0 : y.cnt b ≠ 0) (hc : y.cnt b ≤ 4611686018427387904) :
    Calls Try.prog 71 #[.pointer (some ⟨x.g, 0, none⟩), .int .i64 b] w fun e w' => e = .returned (.int .i64 0) ∧ RefAt w' x { y with cnt := updN y.cnt b (y.cnt b - 1) } ∧ Chg w w' (fun z => z = x.cb) := by
  have HC := hidd (rused_any h b)
  rw [cntI_nat y.cnt hb, decide_eq_true h0] at HC
  obtain ⟨_, _, _, _, c4, _, _⟩ := h.cells
  have d := h.count hb
  have hB := h.hB
  have hcc := h.caps.1
  have hcm : x.cc ≤ 9223372036854775807 := by have := hcc.2; unfold maxLen at this; omega
  obtain ⟨F1, r1, _⟩ := h.cnts
  have fz := r1.frozen
  have H1 := hidd (h.set_cnt b (y.cnt b - 1))
  obtain ⟨c1, hc1⟩ : ∃ c1, c1 = y.cnt b - 1 := ⟨_, rfl⟩
  have e1 : (y.cnt b : Int) - 1 = (c1 : Int) := by omega
  rw [← hc1] at H1 ⊢
  have hcl : c1 ≤ 4611686018427387905 := by omega
  clear h h0 r1 hc1
  generalize y.cnt b = c at d e1 hc
  go_enter Try.func71, Try.ntmps71
  go_wp2_with (go_at_call 74; with_reducible refine HC.out.mono ?_; rintro e w9 ⟨rfl, h9⟩; rw [h9]; clear h9)
  go_ret
  exact ⟨rfl, H1.out, Chg.of_set _ _ _ _⟩
set_option maxHeartbeats 800000 in
theorem rshape_any {w : World} {x : Rx} {y : Ry} (h : RefAt w x y) :
    Calls Try.prog 73 #[.pointer (some ⟨x.g, 0, none⟩)] w fun e w' => e = .returned (.tuple #[.int .i64 x.L, .int .i64 x.W, .int .i64 x.B, .int .i64 x.S]) ∧ Below w.heap.size w w' := by
  obtain ⟨c0, c1, c2, c3, _, _, _⟩ := h.cells
  clear h
  go_enter Try.func73, Try.ntmps73
  go_wp2
  go_quiet (fail)
  go_wp2
  refine bodyPost_ret (results_tmp4 rfl _ _ _) rfl ?_
  exact ⟨rfl, below_drewN (Below.refl _ _) _⟩
end Go.Proofs.Ytaalinlggjimcaa
namespace Go.Proofs.Ytaalinlggjimcaa
open Go.RowKit
/-! The reference's Take. -/
theorem InAt.congr {w : World} {b cap W o : Nat} {num num' : Nat → Int} (h : InAt w b cap W num o) (e : ∀ j, j < W → num (o + j) = num' (o + j)) : InAt w b cap W num' o := by
  obtain ⟨h1, h2, F, hr, hF⟩ := h
  exact ⟨h1, h2, F, hr, fun j hj => by rw [hF j hj, e j hj]⟩
theorem two_apart {i k W j : Nat} (h : k ≠ i) (hj : j < 2 * W) : ¬ (i * (2 * W) ≤ k * (2 * W) + j ∧ k * (2 * W) + j < i * (2 * W) + 2 * W) := by
  rintro ⟨h1, h2⟩
  have hq : 0 < 2 * W := by omega
  have e1 : (k * (2 * W) + j) / (2 * W) = i := by
    obtain ⟨r, hr⟩ : ∃ r, k * (2 * W) + j = i * (2 * W) + r := ⟨k * (2 * W) + j - i * (2 * W), by omega⟩
    rw [hr, Nat.mul_comm i, Nat.mul_add_div hq, Nat.div_eq_of_lt (by omega), Nat.add_zero]
  have e2 : (k * (2 * W) + j) / (2 * W) = k := by
    rw [Nat.mul_comm k, Nat.mul_add_div hq, Nat.div_eq_of_lt hj, Nat.add_zero]
  omega
theorem RefAt.set_k {w : World} {x : Rx} {y : Ry} (h : RefAt w x y) {i a cap : Nat} (hi : i < x.n) (num' : Nat → Int) (hin : InAt w a cap x.W num' (i * (2 * x.W))) (he : ∀ j, ¬ (i * (2 * x.W) ≤ j ∧ j < i * (2 * x.W) + x.W) → num' j = y.num j) :
    RefAt (w.setCell ⟨x.kb, i, none⟩ (.slice (some ⟨a, 0, none⟩) x.W cap)) x { y with num := num', ka := updN y.ka i a, kx := updN y.kx i cap } := by
  have c := Chg.of_set w x.kb i (.slice (some ⟨a, 0, none⟩) x.W cap)
  obtain ⟨F1, r1, f1⟩ := h.cnts
  obtain ⟨F2, r2, f2⟩ := h.ks
  obtain ⟨F3, r3, f3⟩ := h.vs
  have hW := h.hW
  refine ⟨c.row h.row (type_apart h.row r2 (by decide)), ⟨F1, c.row r1 (type_apart r1 r2 (by decide)), f1⟩, ⟨_, r2.set i _, fun k hk => ?_⟩, ⟨F3, c.row r3 h.kv.symm, f3⟩, fun k hk => ?_, fun k hk => ?_, h.kv, h.hn, h.caps, h.hL, h.hW, h.hB, h.hS⟩
  · show (if k = i then _ else F2 k) = .slice (some ⟨updN y.ka i a k, 0, none⟩) x.W (updN y.kx i cap k)
    unfold updN
    by_cases e : k = i
    · rw [if_pos e, if_pos e, if_pos e]
    · rw [if_neg e, if_neg e, if_neg e, f2 k hk]
  · show InAt _ (updN y.ka i a k) (updN y.kx i cap k) x.W num' (k * (2 * x.W))
    by_cases e : k = i
    · rw [e, updN_at, updN_at]
      exact hin.chg c (hin.apart r2 (by decide))
    · rw [updN_ne _ _ e, updN_ne _ _ e]
      exact ((h.kin k hk).chg c ((h.kin k hk).apart r2 (by decide))).congr (fun j hj => (he _ (by have := two_apart (W := x.W) (j := j) e (by omega); omega)).symm)
  · show InAt _ (y.va k) (y.vx k) x.W num' (k * (2 * x.W) + x.W)
    refine ((h.vin k hk).chg c ((h.vin k hk).apart r2 (by decide))).congr (fun j hj => (he _ ?_).symm)
    by_cases e : k = i
    · subst e; omega
    · have := two_apart (W := x.W) (j := x.W + j) e (by omega)
      omega
theorem RefAt.set_v {w : World} {x : Rx} {y : Ry} (h : RefAt w x y) {i a cap : Nat} (hi : i < x.n) (num' : Nat → Int) (hin : InAt w a cap x.W num' (i * (2 * x.W) + x.W)) (he : ∀ j, ¬ (i * (2 * x.W) + x.W ≤ j ∧ j < i * (2 * x.W) + x.W + x.W) → num' j = y.num j) :
    RefAt (w.setCell ⟨x.vb, i, none⟩ (.slice (some ⟨a, 0, none⟩) x.W cap)) x { y with num := num', va := updN y.va i a, vx := updN y.vx i cap } := by
  have c := Chg.of_set w x.vb i (.slice (some ⟨a, 0, none⟩) x.W cap)
  obtain ⟨F1, r1, f1⟩ := h.cnts
  obtain ⟨F2, r2, f2⟩ := h.ks
  obtain ⟨F3, r3, f3⟩ := h.vs
  have hW := h.hW
  refine ⟨c.row h.row (type_apart h.row r3 (by decide)), ⟨F1, c.row r1 (type_apart r1 r3 (by decide)), f1⟩, ⟨F2, c.row r2 h.kv, f2⟩, ⟨_, r3.set i _, fun k hk => ?_⟩, fun k hk => ?_, fun k hk => ?_, h.kv, h.hn, h.caps, h.hL, h.hW, h.hB, h.hS⟩
  · show (if k = i then _ else F3 k) = .slice (some ⟨updN y.va i a k, 0, none⟩) x.W (updN y.vx i cap k)
    unfold updN
    by_cases e : k = i
    · rw [if_pos e, if_pos e, if_pos e]
    · rw [if_neg e, if_neg e, if_neg e, f3 k hk]
  · show InAt _ (y.ka k) (y.kx k) x.W num' (k * (2 * x.W))
    refine ((h.kin k hk).chg c ((h.kin k hk).apart r3 (by decide))).congr (fun j hj => (he _ ?_).symm)
    by_cases e : k = i
    · subst e; omega
    · have := two_apart (W := x.W) (j := j) e (by omega)
      omega
  · show InAt _ (updN y.va i a k) (updN y.vx i cap k) x.W num' (k * (2 * x.W) + x.W)
    by_cases e : k = i
    · rw [e, updN_at, updN_at]
      exact hin.chg c (hin.apart r3 (by decide))
    · rw [updN_ne _ _ e, updN_ne _ _ e]
      exact ((h.vin k hk).chg c ((h.vin k hk).apart r3 (by decide))).congr (fun j hj => (he _ (by have := two_apart (W := x.W) (j := x.W + j) e (by omega); omega)).symm)
theorem RefAt.kcell {w : World} {x : Rx} {y : Ry} (h : RefAt w x y) {i : Nat} (hi : i < x.n) : w.cell? ⟨x.kb, i, none⟩ = some (.slice (some ⟨y.ka i, 0, none⟩) x.W (y.kx i)) ∧ w.cell? ⟨x.vb, i, none⟩ = some (.slice (some ⟨y.va i, 0, none⟩) x.W (y.vx i)) := by
  obtain ⟨F2, r2, f2⟩ := h.ks
  obtain ⟨F3, r3, f3⟩ := h.vs
  have hc := h.caps
  exact ⟨by rw [r2.cell (i := i) (by omega), f2 i hi], by rw [r3.cell (i := i) (by omega), f3 i hi]⟩
set_option maxRecDepth 20000 in
set_option maxHeartbeats 1600000 in
theorem rtake_miss {w : World} {x : Rx} {y : Ry} (h : RefAt w x y) (hl : ∀ j, j < x.B → y.cnt j ≠ 0) :
    Calls Try.prog 69 #[.pointer (some ⟨x.g, 0, none⟩)] w fun e w' => e = .returned (.tuple #[.int .i64 0, .int .i64 60]) ∧ w' = w := by
  obtain ⟨_, _, c2, _, c4, _, _⟩ := h.cells
  have hB := h.hB
  have hcc := h.caps.1
  have hcm : x.cc ≤ 9223372036854775807 := by have := hcc.2; unfold maxLen at this; omega
  have HC := hidd (fun i hi => h.count (b := i) hi)
  have HLn := hidd hl
  clear h hl
  go_enter Try.func69, Try.ntmps69
  go_wp2
  go_loopw [4] (fun i wr => ∃ k : Nat, k ≤ x.B ∧ i = .int .i64 k ∧ wr = w) (fun i _ => x.B - (intOf i).toNat)
  case atStart => exact ⟨0, by omega, rfl, rfl⟩
  case round =>
    obtain ⟨k, hk, rfl, rfl⟩ := hrel
    by_cases hlt : k < x.B
    · have d := HC.out k hlt
      have h0 := HLn.out k hlt
      have hb : ((y.cnt k : Int) == 0) = false := by simp [h0]
      generalize y.cnt k = q at *
      go_wp2
      go_roundw
      case rel => exact ⟨k + 1, by omega, by go_num, trivial⟩
      case measure => simp [intOf]; omega
    · go_wp2
      go_ret2
      exact ⟨rfl, rfl⟩
end Go.Proofs.Ytaalinlggjimcaa
namespace Go.Proofs.Ytaalinlggjimcaa
open Go.RowKit
/-! The reference's Take, where a block is free. -/
theorem InAt.congr0 {w : World} {b cap W o : Nat} {num' : Nat → Int} (h : InAt w b cap W (fun _ => 0) 0) (e : ∀ j, j < W → num' (o + j) = 0) : InAt w b cap W num' o := by
  obtain ⟨h1, h2, F, hr, hF⟩ := h
  exact ⟨h1, h2, F, hr, fun j hj => by rw [hF j hj, e j hj]⟩
theorem far3 {w : World} {kb g t : Nat} {v a b c : Value} (h : g ≠ kb) (h1 : w.cell? ⟨g, 1, none⟩ = some a) (h2 : w.cell? ⟨g, 5, none⟩ = some b) (h3 : w.cell? ⟨g, 6, none⟩ = some c) : (w.setCell ⟨kb, t, none⟩ v).cell? ⟨g, 1, none⟩ = some a ∧ (w.setCell ⟨kb, t, none⟩ v).cell? ⟨g, 5, none⟩ = some b ∧ (w.setCell ⟨kb, t, none⟩ v).cell? ⟨g, 6, none⟩ = some c :=
  ⟨(World.cell?_setCell_far w ⟨kb, t, none⟩ ⟨g, 1, none⟩ v (fun e => h e.symm)).trans h1, (World.cell?_setCell_far w ⟨kb, t, none⟩ ⟨g, 5, none⟩ v (fun e => h e.symm)).trans h2, (World.cell?_setCell_far w ⟨kb, t, none⟩ ⟨g, 6, none⟩ v (fun e => h e.symm)).trans h3⟩
theorem zeroed_ext (num : Nat → Int) {o k t : Nat} (j : Nat) : (if o + k ≤ j ∧ j < o + k + t then 0 else zeroed num o k j) = zeroed num o (k + t) j := by
  unfold zeroed
  by_cases h1 : o + k ≤ j ∧ j < o + k + t
  · rw [if_pos h1, if_pos (by omega)]
  · rw [if_neg h1]
    by_cases h2 : o ≤ j ∧ j < o + k
    · rw [if_pos h2, if_pos (by omega)]
    · rw [if_neg h2, if_neg (by omega)]
set_option maxRecDepth 20000 in
set_option maxHeartbeats 4000000 in
theorem rtake_hit {w : World} {x : Rx} {y : Ry} {b q bn T : Nat} (h : RefAt w x y) (G : Geo x.L x.W x.B x.S q bn T) (hb : b < x.B) (h0 : y.cnt b = 0) (hl : ∀ j, j < b → y.cnt j ≠ 0) :
    Calls Try.prog 69 #[.pointer (some ⟨x.g, 0, none⟩)] w fun e w' => e = .returned (.tuple #[.int .i64 b, .int .i64 0]) ∧ ∃ ka va kx vx, RefAt w' x ⟨updN y.cnt b 1, zeroed y.num (b * bn) bn, ka, va, kx, vx⟩ ∧ (∀ i, i < x.n → (ka i = y.ka i ∨ w.heap.size ≤ ka i) ∧ (va i = y.va i ∨ w.heap.size ≤ va i)) ∧ Chg w w' (fun z => z = x.cb ∨ z = x.kb ∨ z = x.vb) := by
  obtain ⟨_, _, c2, _, c4, _, _⟩ := h.cells
  have hB := h.hB
  have hS := h.hS
  have hL := h.hL
  have hW := h.hW
  have hcc := h.caps.1
  have hcm : x.cc ≤ 9223372036854775807 := by have := hcc.2; unfold maxLen at this; omega
  have HC := hidd (fun i hi => h.count (b := i) hi)
  have HLn := hidd hl
  obtain ⟨F1, r1, _⟩ := h.cnts
  have fz1 := r1.frozen
  have H1 := hidd (h.set_cnt b 1)
  obtain ⟨bs, hbs⟩ : ∃ bs, bs = b * x.S := ⟨_, rfl⟩
  obtain ⟨o, ho⟩ : ∃ o, o = bs * x.L := ⟨_, rfl⟩
  obtain ⟨b1, hb1⟩ : ∃ b1, b1 = b + 1 := ⟨_, rfl⟩
  obtain ⟨b1s, hb1s⟩ : ∃ b1s, b1s = b1 * x.S := ⟨_, rfl⟩
  obtain ⟨o2, ho2⟩ : ∃ o2, o2 = b1s * x.L := ⟨_, rfl⟩
  have e1 : (b : Int) * (x.S : Int) = (bs : Int) := by rw [hbs]; push_cast; rfl
  have e2 : (bs : Int) * (x.L : Int) = (o : Int) := by rw [ho]; push_cast; rfl
  have e3 : (b : Int) + 1 = (b1 : Int) := by omega
  have e4 : (b1 : Int) * (x.S : Int) = (b1s : Int) := by rw [hb1s]; push_cast; rfl
  have e5 : (b1s : Int) * (x.L : Int) = (o2 : Int) := by rw [ho2]; push_cast; rfl
  have ho3 : o2 = o + x.S * x.L := by rw [ho2, ho, hb1s, hb1, hbs, Nat.add_mul, Nat.one_mul, Nat.add_mul]
  have ho4 : o2 ≤ x.n := by
    rw [ho2, hb1s, h.hn]
    exact Nat.mul_le_mul_right _ (Nat.mul_le_mul_right _ (by omega))
  have hbsb : bs ≤ 4096 := by rw [hbs]; have := Nat.mul_le_mul (show b ≤ 256 by omega) hS.2; omega
  have hb1sb : b1s ≤ 4112 := by rw [hb1s]; have := Nat.mul_le_mul (show b1 ≤ 257 by omega) hS.2; omega
  have ho2b : o2 ≤ 16448 := by rw [ho2]; have := Nat.mul_le_mul hb1sb hL.2; omega
  have hob : o ≤ o2 := by omega
  have hfin1 : b * bn = o * (2 * x.W) := by rw [ho, hbs, G.en, G.eq]; simp only [Nat.mul_assoc]
  have hfin2 : bn = (o2 - o) * (2 * x.W) := by rw [ho3, Nat.add_sub_cancel_left, G.en, G.eq]; simp only [Nat.mul_assoc]
  rw [hfin1, hfin2]
  have HO3 := hidd ho3
  clear h hl r1 hbs ho hb1 hb1s ho2 hfin1 hfin2 G ho3
  go_enter Try.func69, Try.ntmps69
  go_wp2
  go_loopw [4] (fun i wr => ∃ k : Nat, k ≤ b ∧ i = .int .i64 k ∧ wr = w) (fun i _ => b - (intOf i).toNat)
  case atStart => exact ⟨0, by omega, rfl, rfl⟩
  case round =>
    obtain ⟨k, hk, rfl, hw⟩ := hrel
    rw [hw]
    clear hw
    by_cases hlt : k < b
    · have d := HC.out k (by omega)
      have h0' := HLn.out k hlt
      have hb' : ((y.cnt k : Int) == 0) = false := by simp [h0']
      generalize y.cnt k = q at *
      go_wp2
      go_roundw
      case rel => exact ⟨k + 1, by omega, by go_num, trivial⟩
      case measure => simp [intOf]; omega
    · obtain rfl : k = b := by omega
      have d := HC.out k hb
      rw [h0] at d
      go_upto_region 8 with fail
      have C1 := hidd (Chg.of_set w x.cb k (.int .i64 1))
      generalize hw1 : w.setCell ⟨x.cb, k, none⟩ (.int .i64 1) = w1 at *
      clear hw1
      obtain ⟨p0, p1, _, p3, _, _, _⟩ := H1.out.cells
      go_wp2
      go_quiet (fail)
      go_wp2
      have hfd := below_drewN (Below.refl w1.heap.size w1)
      go_loopw [5] (fun i wx => ∃ (t : Nat) (ka va kx vx : Nat → Nat), o ≤ t ∧ t ≤ o2 ∧ i = .int .i64 t ∧ RefAt wx x ⟨updN y.cnt k 1, zeroed y.num (o * (2 * x.W)) ((t - o) * (2 * x.W)), ka, va, kx, vx⟩ ∧ Hid (∀ i, i < x.n → (ka i = y.ka i ∨ w.heap.size ≤ ka i) ∧ (va i = y.va i ∨ w.heap.size ≤ va i)) ∧ Chg w wx (fun z => z = x.cb ∨ z = x.kb ∨ z = x.vb)) (fun i _ => o2 - (intOf i).toNat)
      case atStart =>
        refine ⟨o, y.ka, y.va, y.kx, y.vx, Nat.le_refl _, hob, rfl, ?_, fun _ _ => ⟨.inl rfl, .inl rfl⟩, ?_⟩
        · have hz : zeroed y.num (o * (2 * x.W)) ((o - o) * (2 * x.W)) = y.num := by
            funext j
            unfold zeroed
            rw [Nat.sub_self, Nat.zero_mul, if_neg (by omega)]
          rw [hz]
          exact H1.out.fresh (hfd _)
        · exact (C1.out.imp (fun _ _ e => Or.inl e)).post (hfd _)
      case round =>
        clear H1 C1 p0 p1 p3 d hfd
        obtain ⟨t, ka, va, kx, vx, ht1, ht2, rfl, hR, HPV, hC⟩ := hrel
        obtain ⟨p0, p1, _, p3, _, p5, p6⟩ := hR.cells
        have hkc := hR.caps.2.1
        have hvc := hR.caps.2.2
        have hkc2 : x.kc ≤ 9223372036854775807 := by have := hkc.2; unfold maxLen at this; omega
        have hvc2 : x.vc ≤ 9223372036854775807 := by have := hvc.2; unfold maxLen at this; omega
        by_cases hlt : t < o2
        · have b1' : decide ((t : Int) < (o2 : Int)) = true := by simp; omega
          have htn : t < x.n := by omega
          have HR := hidd hR
          have HCC := hidd hC
          clear hR hC
          go_wp2
          go_quiet (fail)
          go_upto_region 11 with fail
          have f1 : Below wr.heap.size wr (wr.drewN nq) := below_drewN (Below.refl _ _) _
          have HR1 := hidd (HR.out.fresh f1)
          have HC1 := hidd (HCC.out.post f1)
          generalize wr.drewN nq = w2 at *
          have j8 : (0 : Int) ≤ (t : Int) := by omega
          have j9 : (t : Int) < (x.n : Int) := by omega
          obtain ⟨_, q1A, _, _, _, q5A, q6A⟩ := HR1.out.cells
          have hgA : x.g ≠ x.kb := by
            obtain ⟨F, r, _⟩ := HR1.out.ks
            exact type_apart HR1.out.row r (by decide)
          have HZA : Hid (Calls Try.prog 68 #[.int .i64 x.W] w2.drew fun e w' => ∃ a ac, e = .returned (.slice (some ⟨a, 0, none⟩) x.W ac) ∧ w'.cell? ⟨x.g, 1, none⟩ = some (.int .i64 x.W) ∧ w'.cell? ⟨x.g, 5, none⟩ = some (.slice (some ⟨x.kb, 0, none⟩) x.n x.kc) ∧ w'.cell? ⟨x.g, 6, none⟩ = some (.slice (some ⟨x.vb, 0, none⟩) x.n x.vc) ∧ (∃ u, w'.cell? ⟨x.kb, t, none⟩ = some u) ∧ (∀ j, w'.frozen? ⟨x.kb, j, none⟩ = false) ∧ Hid (RefAt w' x ⟨updN y.cnt k 1, zeroed y.num (o * (2 * x.W)) ((t - o) * (2 * x.W)), ka, va, kx, vx⟩ ∧ InAt w' a ac x.W (fun _ => 0) 0 ∧ Chg w w' (fun z => z = x.cb ∨ z = x.kb ∨ z = x.vb) ∧ w.heap.size ≤ a)) := by
            have fd : Below w2.heap.size w2 w2.drew := (Below.refl _ _).drew
            refine (zeros_any x.W w2.drew (by omega) (by omega)).mono ?_
            rintro e w' ⟨a, ac, rfl, hge, hin, hf⟩
            have hR' := HR1.out.fresh (fresh_trans fd hf)
            obtain ⟨_, z1, _, _, _, z5, z6⟩ := hR'.cells
            obtain ⟨F, r, _⟩ := hR'.ks
            exact ⟨a, ac, rfl, z1, z5, z6, ⟨_, (hR'.kcell htn).1⟩, r.frozen, hR', hin, HC1.out.post (fresh_trans fd hf), Nat.le_trans HC1.out.size (Nat.le_trans fd.size hge)⟩
          go_region_held3 (fun w' => w'.cell? ⟨x.g, 1, none⟩ = some (.int .i64 x.W) ∧ w'.cell? ⟨x.g, 5, none⟩ = some (.slice (some ⟨x.kb, 0, none⟩) x.n x.kc) ∧ w'.cell? ⟨x.g, 6, none⟩ = some (.slice (some ⟨x.vb, 0, none⟩) x.n x.vc))
            (first | (with_reducible exact ⟨q1A, q5A, q6A⟩) | (with_reducible exact ⟨s1A, s5A, s6A⟩) | (with_reducible exact far3 hgA s1A s5A s6A) | go_keep)
            (first | (go_at_call 68; with_reducible refine HZA.out.mono ?_; rintro e w3A ⟨aA, acA, rfl, s1A, s5A, s6A, ⟨uA, kkA⟩, fzA, H3A⟩))
          all_goals
            have HK4 := hidd (H3A.out.1.set_k htn (fun j => if t * (2 * x.W) ≤ j ∧ j < t * (2 * x.W) + x.W then 0 else zeroed y.num (o * (2 * x.W)) ((t - o) * (2 * x.W)) j) (H3A.out.2.1.congr0 (fun j hj => by rw [if_pos (by omega)])) (fun j hj => by rw [if_neg hj]))
            have HC4 := hidd (H3A.out.2.2.1.trans (Chg.of_set w3A x.kb t (.slice (some ⟨aA, 0, none⟩) x.W acA)) (fun _ _ e => Or.inr (Or.inl e)))
            have HGA := hidd H3A.out.2.2.2
            clear H3A HZA kkA fzA s1A s5A s6A q1A q5A q6A
            go_upto_region 12 with fail
            generalize w3A.setCell ⟨x.kb, t, none⟩ (.slice (some ⟨aA, 0, none⟩) x.W acA) = w4 at *
            obtain ⟨_, q1B, _, _, _, q5B, q6B⟩ := HK4.out.cells
            have hgB : x.g ≠ x.vb := by
              obtain ⟨F, r, _⟩ := HK4.out.vs
              exact type_apart HK4.out.row r (by decide)
            have HZB : Hid (Calls Try.prog 68 #[.int .i64 x.W] w4.drew fun e w' => ∃ a ac, e = .returned (.slice (some ⟨a, 0, none⟩) x.W ac) ∧ w'.cell? ⟨x.g, 1, none⟩ = some (.int .i64 x.W) ∧ w'.cell? ⟨x.g, 5, none⟩ = some (.slice (some ⟨x.kb, 0, none⟩) x.n x.kc) ∧ w'.cell? ⟨x.g, 6, none⟩ = some (.slice (some ⟨x.vb, 0, none⟩) x.n x.vc) ∧ (∃ u, w'.cell? ⟨x.vb, t, none⟩ = some u) ∧ (∀ j, w'.frozen? ⟨x.vb, j, none⟩ = false) ∧ Hid (RefAt w' x ⟨updN y.cnt k 1, fun j => if t * (2 * x.W) ≤ j ∧ j < t * (2 * x.W) + x.W then 0 else zeroed y.num (o * (2 * x.W)) ((t - o) * (2 * x.W)) j, updN ka t aA, va, updN kx t acA, vx⟩ ∧ InAt w' a ac x.W (fun _ => 0) 0 ∧ Chg w w' (fun z => z = x.cb ∨ z = x.kb ∨ z = x.vb) ∧ w.heap.size ≤ a)) := by
              have fd : Below w4.heap.size w4 w4.drew := (Below.refl _ _).drew
              refine (zeros_any x.W w4.drew (by omega) (by omega)).mono ?_
              rintro e w' ⟨a, ac, rfl, hge, hin, hf⟩
              have hR' := HK4.out.fresh (fresh_trans fd hf)
              obtain ⟨_, z1, _, _, _, z5, z6⟩ := hR'.cells
              obtain ⟨F, r, _⟩ := hR'.vs
              exact ⟨a, ac, rfl, z1, z5, z6, ⟨_, (hR'.kcell htn).2⟩, r.frozen, hR', hin, HC4.out.post (fresh_trans fd hf), Nat.le_trans HC4.out.size (Nat.le_trans fd.size hge)⟩
            go_region_held3 (fun w' => w'.cell? ⟨x.g, 1, none⟩ = some (.int .i64 x.W) ∧ w'.cell? ⟨x.g, 5, none⟩ = some (.slice (some ⟨x.kb, 0, none⟩) x.n x.kc) ∧ w'.cell? ⟨x.g, 6, none⟩ = some (.slice (some ⟨x.vb, 0, none⟩) x.n x.vc))
              (first | (with_reducible exact ⟨q1B, q5B, q6B⟩) | (with_reducible exact ⟨s1B, s5B, s6B⟩) | (with_reducible exact far3 hgB s1B s5B s6B) | go_keep)
              (first | (go_at_call 68; with_reducible refine HZB.out.mono ?_; rintro e w3B ⟨aB, acB, rfl, s1B, s5B, s6B, ⟨uB, kkB⟩, fzB, H3B⟩))
            all_goals
              have HZX : Hid (∀ j, (if t * (2 * x.W) + x.W ≤ j ∧ j < t * (2 * x.W) + x.W + x.W then 0 else if t * (2 * x.W) ≤ j ∧ j < t * (2 * x.W) + x.W then 0 else zeroed y.num (o * (2 * x.W)) ((t - o) * (2 * x.W)) j) = zeroed y.num (o * (2 * x.W)) ((t + 1 - o) * (2 * x.W)) j) := fun j => by
                have hto : t * (2 * x.W) = o * (2 * x.W) + (t - o) * (2 * x.W) := by rw [← Nat.add_mul]; congr 1; omega
                have ht1' : (t + 1 - o) * (2 * x.W) = (t - o) * (2 * x.W) + 2 * x.W := by rw [show t + 1 - o = (t - o) + 1 by omega, Nat.add_mul, Nat.one_mul]
                rw [ht1', ← zeroed_ext]
                rw [hto]
                generalize o * (2 * x.W) = A0
                generalize (t - o) * (2 * x.W) = A1
                by_cases c1 : A0 + A1 + x.W ≤ j ∧ j < A0 + A1 + x.W + x.W
                · rw [if_pos c1, if_pos (by omega)]
                · rw [if_neg c1]
                  by_cases c2 : A0 + A1 ≤ j ∧ j < A0 + A1 + x.W
                  · rw [if_pos c2, if_pos (by omega)]
                  · rw [if_neg c2, if_neg (by omega)]
              have HK5 := hidd (H3B.out.1.set_v htn (zeroed y.num (o * (2 * x.W)) ((t + 1 - o) * (2 * x.W))) (H3B.out.2.1.congr0 (fun j hj => by rw [← HZX.out, if_pos (by omega)])) (fun j hj => by rw [← HZX.out, if_neg hj]))
              have HC5 := hidd (H3B.out.2.2.1.trans (Chg.of_set w3B x.vb t (.slice (some ⟨aB, 0, none⟩) x.W acB)) (fun _ _ e => Or.inr (Or.inr e)))
              have HGB := hidd H3B.out.2.2.2
              clear H3B HZB kkB fzB s1B s5B s6B q1B q5B q6B HK4 HC4 HZX
              go_wp2
              go_roundw
              case rel => exact ⟨t + 1, updN ka t aA, updN va t aB, updN kx t acA, updN vx t acB, by omega, by omega, by go_num, HK5.out, fun i hi => (by
                obtain ⟨h1, h2⟩ := HPV.out i hi
                unfold updN
                refine ⟨?_, ?_⟩
                · split
                  · exact .inr HGA.out
                  · exact h1
                · split
                  · exact .inr HGB.out
                  · exact h2), HC5.out⟩
              case measure => simp [intOf]; omega
        · have b1' : decide ((t : Int) < (o2 : Int)) = false := by simp; omega
          obtain rfl : t = o2 := by omega
          go_wp2
          go_quiet (fail)
          go_wp2
          go_ret2
          exact ⟨rfl, ka, va, kx, vx, hR.fresh (below_drewN (Below.refl _ _) _), HPV.out, hC.post (below_drewN (Below.refl _ _) _)⟩
end Go.Proofs.Ytaalinlggjimcaa
namespace Go.Proofs.Ytaalinlggjimcaa
open Go.RowKit
/-! The reference's Len, size, has. -/
theorem rlen_any {w : World} {base D pg : Nat} {v : Value} {L : List Nd} {S N : Nat} {Ta : Nat → Option Addr} {Tc : Nat → Nat} (h : RcAt w base D pg v L S N Ta Tc) :
    Calls Try.prog 56 #[.pointer (some ⟨D, 0, none⟩)] w fun e w' => e = .returned (.int .i64 (L.length : Nat)) ∧ w' = w := by
  obtain ⟨vo, vc, _, c1, _, _⟩ := h.list
  clear h
  go_enter Try.func56, Try.ntmps56
  go_wp2
  go_ret
  exact ⟨rfl, rfl⟩
set_option maxHeartbeats 400000 in
theorem rsize_any {w : World} {base D : Nat} {v : Value} {L : List Nd} {S N : Nat} {Ta : Nat → Option Addr} {Tc : Nat → Nat} {x : Rx} {y : Ry} (h : RcAt w base D x.g v L S N Ta Tc) (hp : RefAt w x y) :
    Calls Try.prog 57 #[.pointer (some ⟨D, 0, none⟩)] w fun e w' => e = .returned (.int .i64 (x.S : Nat)) ∧ Below w.heap.size w w' := by
  have c0 : w.cell? ⟨D, 0, none⟩ = some (.pointer (some ⟨x.g, 0, none⟩)) := h.row.cell (i := 0) (by decide)
  have HS := hidd (rshape_any hp)
  clear h hp
  go_enter Try.func57, Try.ntmps57
  go_wp2_with (go_at_call 73; with_reducible refine HS.out.mono ?_; rintro e w5 ⟨rfl, f5⟩)
  go_ret
  exact ⟨rfl, f5⟩
set_option maxRecDepth 20000 in
set_option maxHeartbeats 1600000 in
theorem has_any {w : World} {base D pg : Nat} {v : Value} {L : List Nd} {S N : Nat} {Ta : Nat → Option Addr} {Tc : Nat → Nat} (h : RcAt w base D pg v L S N Ta Tc) (x : Int) :
    Calls Try.prog 60 #[.pointer (some ⟨D, 0, none⟩), .int .i64 x] w fun e w' => (∃ r : Bool, e = .returned (.bool r) ∧ (r = true ↔ ∃ y ∈ L, (y.blk : Int) = x)) ∧ w' = w := by
  obtain ⟨vo, vc, _, c1, hLl, hcs⟩ := h.list
  clear h
  go_enter Try.func60, Try.ntmps60
  go_wp2
  go_loopw [5] (fun vi wr => ∃ i : Nat, i ≤ L.length ∧ vi = .int .i64 (i : Int) ∧ Hid (∀ j, j < i → ((ndAt L j).blk : Int) ≠ x) ∧ w = wr) (fun vi _ => L.length - (intOf vi).toNat)
  case atStart => exact ⟨0, by omega, rfl, fun j hj => absurd hj (by omega), rfl⟩
  case round =>
    obtain ⟨i, hi, rfl, HN, rfl⟩ := hrel
    by_cases hlt : i < L.length
    · obtain ⟨b, off, rfl, hcc⟩ := hcs (by omega)
      have d2 := (hcc i hlt).2.1
      have i0 : (0 : Int) ≤ (i : Int) := by omega
      have i1 : (i : Int) < (L.length : Int) := by omega
      clear hcc hi
      by_cases hp : ((ndAt L i).blk : Int) = x
      · have HP := hidd hp
        go_wp2
        go_ret
        exact ⟨⟨true, rfl, ⟨fun _ => ⟨_, ndAt_mem hlt, HP.out⟩, fun _ => rfl⟩⟩, rfl⟩
      · have HP := hidd hp
        go_wp2
        go_roundw
        case rel => exact ⟨i + 1, by omega, by go_num, fun j hj => (by
          by_cases e : j = i
          · rw [e]; exact HP.out
          · exact HN.out j (by omega)), (by first | rfl | trivial)⟩
        case measure => simp [intOf]; omega
    · obtain rfl : i = L.length := by omega
      go_wp2
      go_ret
      refine ⟨⟨false, rfl, ⟨fun q => (by cases q), fun ⟨y, hy, e⟩ => ?_⟩⟩, rfl⟩
      obtain ⟨j, hj, rfl⟩ := mem_ndAt hy
      exact absurd e (HN.out j hj)
end Go.Proofs.Ytaalinlggjimcaa
namespace Go.Proofs.Ytaalinlggjimcaa
open Go.RowKit
/-! The reference's list, written in place. -/
theorem Own.put {w : World} {base : Nat} {e : TypeId} {sz g cap n : Nat} {cs : Nat → Value} (h : Own w base e sz (.slice (some ⟨g, 0, none⟩) n cap) n cs) (j : Nat) (x : Value) : Own (w.setCell ⟨g, j, none⟩ x) base e sz (.slice (some ⟨g, 0, none⟩) n cap) n (fun i => if i = j then x else cs i) := by
  have := (World.ownsRow.stored h j x).1
  unfold Own
  have e1 : (List.range (n * sz)).map (fun i => if i = j then x else cs i) = ((List.range (n * sz)).map cs).set j x := by
    refine List.ext_getElem? (fun i => ?_)
    rw [List.getElem?_set]
    by_cases hi : i < n * sz
    · by_cases e : j = i
      · subst e
        simp [hi]
      · rw [if_neg e]
        simp [hi]
        exact fun q => absurd q.symm e
    · simp [hi]
      omega
  rw [e1]
  exact this
def setU (L : List Nd) (i n : Nat) : List Nd := L.set i { ndAt L i with used := n }
theorem setU_len (L : List Nd) (i n : Nat) : (setU L i n).length = L.length := by unfold setU; simp
theorem setU_at {L : List Nd} {i n : Nat} (h : i < L.length) (j : Nat) : ndAt (setU L i n) j = if j = i then { ndAt L i with used := n } else ndAt L j := by
  unfold setU
  show (L.set i _).getD j nd0 = _
  rw [List.getD_eq_getElem?_getD, List.getElem?_set]
  by_cases e : j = i
  · subst e
    simp [h]
  · rw [if_neg (fun q => e q.symm), if_neg e]
    unfold ndAt
    rw [List.getD_eq_getElem?_getD]
theorem RcAt.use {w : World} {base D pg g cap : Nat} {L : List Nd} {S N : Nat} {Ta : Nat → Option Addr} {Tc : Nat → Nat} (h : RcAt w base D pg (.slice (some ⟨g, 0, none⟩) L.length cap) L S N Ta Tc) (hD : D ≠ g) (hT : ∀ i, i < L.length → ∀ z, (Value.slice (Ta i) ((ndAt L i).path.length * S) (Tc i)).ownBlock = some z → z ≠ g) {i : Nat} (hi : i < L.length) (n : Nat) : RcAt (w.setCell ⟨g, i * 3 + 2, none⟩ (.int .i64 n)) base D pg (.slice (some ⟨g, 0, none⟩) L.length cap) (setU L i n) S N Ta Tc := by
  have k := Chg.of_set w g (i * 3 + 2) (.int .i64 n)
  have hp : ∀ j, (ndAt (setU L i n) j).path = (ndAt L j).path := fun j => by
    rw [setU_at hi]
    split
    · rename_i e; rw [e]
    · rfl
  refine ⟨k.row h.row hD, ?_, fun j hj => ?_⟩
  · rw [setU_len]
    refine (h.own.put (i * 3 + 2) (.int .i64 n)).congr (fun j hj => ?_)
    unfold knc
    rw [hp]
    by_cases e : j = i * 3 + 2
    · subst e
      rw [if_pos rfl, if_neg (by omega), if_neg (by omega), show (i * 3 + 2) / 3 = i by omega, setU_at hi, if_pos rfl]
    · rw [if_neg e]
      by_cases e0 : j % 3 = 0
      · rw [if_pos e0, if_pos e0]
      · rw [if_neg e0, if_neg e0, setU_at hi]
        by_cases ei : j / 3 = i
        · rw [if_pos ei]
          have e1 : j % 3 = 1 := by omega
          rw [if_pos e1, if_pos e1, ei]
        · rw [if_neg ei]
  · rw [setU_len] at hj
    rw [hp]
    exact (h.tok j hj).chg k (fun z hz e => hT j hj z hz e)
end Go.Proofs.Ytaalinlggjimcaa
