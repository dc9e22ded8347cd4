import Derived.Test.YtmhjpfjhppcfoaaGreatDoorMM
import Derived.Deep.DeepCutAuto
namespace Go.Proofs.YtmhjpfjhppcfoaaGreatDoor
open Go.RowKit
/-! The reference's pool in memory; its small calls. -/
theorem type_apart {w : World} {a b : Nat} {s t : TypeId} {n m : Nat} {f g : Nat → Value} (h : w.rowIs a s n f) (k : w.rowIs b t m g) (hst : s ≠ t) : a ≠ b := by
  intro e
  subst e
  obtain ⟨x, hx, _⟩ := h
  obtain ⟨y, hy, _⟩ := k
  rw [hx] at hy
  cases hy
  exact hst rfl
theorem infoSI8 : (Tryz.prog.info? 24).map (fun i => (i.zero, i.size, i.bytes)) = some (some (.slice none 0 0), 1, 24) := by kernel_rfl
def seven (a b c d e f g : Value) : Nat → Value := fun i => match i with | 0 => a | 1 => b | 2 => c | 3 => d | 4 => e | 5 => f | _ => g
/-- what stays -/
structure Rx where
  g : Nat
  cb : Nat
  cc : Nat
  kb : Nat
  kc : Nat
  vb : Nat
  vc : Nat
  L : Nat
  W : Nat
  B : Nat
  S : Nat
  n : Nat
/-- what changes -/
structure Ry where
  cnt : Nat → Nat
  num : Nat → Int
  ka : Nat → Nat
  va : Nat → Nat
  kx : Nat → Nat
  vx : Nat → Nat
/-- a list of W numbers from o on -/
def InAt (w : World) (b cap W : Nat) (num : Nat → Int) (o : Nat) : Prop := W ≤ cap ∧ cap ≤ maxLen ∧ ∃ F, w.rowIs b 295 cap F ∧ ∀ j, j < W → F j = .int .i8 (num (o + j))
structure RefAt (w : World) (x : Rx) (y : Ry) : Prop where
  row : w.rowIs x.g 232 7 (seven (.int .i64 x.L) (.int .i64 x.W) (.int .i64 x.B) (.int .i64 x.S) (.slice (some ⟨x.cb, 0, none⟩) x.B x.cc) (.slice (some ⟨x.kb, 0, none⟩) x.n x.kc) (.slice (some ⟨x.vb, 0, none⟩) x.n x.vc))
  cnts : ∃ F, w.rowIs x.cb 3 x.cc F ∧ ∀ i, i < x.B → F i = .int .i64 (y.cnt i)
  ks : ∃ F, w.rowIs x.kb 24 x.kc F ∧ ∀ i, i < x.n → F i = .slice (some ⟨y.ka i, 0, none⟩) x.W (y.kx i)
  vs : ∃ F, w.rowIs x.vb 24 x.vc F ∧ ∀ i, i < x.n → F i = .slice (some ⟨y.va i, 0, none⟩) x.W (y.vx i)
  kin : ∀ i, i < x.n → InAt w (y.ka i) (y.kx i) x.W y.num (i * (2 * x.W))
  vin : ∀ i, i < x.n → InAt w (y.va i) (y.vx i) x.W y.num (i * (2 * x.W) + x.W)
  kv : x.kb ≠ x.vb
  hn : x.n = x.B * x.S * x.L
  caps : (x.B ≤ x.cc ∧ x.cc ≤ maxLen) ∧ (x.n ≤ x.kc ∧ x.kc ≤ maxLen) ∧ (x.n ≤ x.vc ∧ x.vc ≤ maxLen)
  hL : 1 ≤ x.L ∧ x.L ≤ 4
  hW : 1 ≤ x.W ∧ x.W ≤ 32
  hB : 1 ≤ x.B ∧ x.B ≤ 256
  hS : 1 ≤ x.S ∧ x.S ≤ 16
theorem InAt.chg {w w' : World} {T : Nat → Prop} (c : Chg w w' T) {b cap W o : Nat} {num : Nat → Int} (h : InAt w b cap W num o) (hb : ¬ T b) : InAt w' b cap W num o := by
  obtain ⟨h1, h2, F, hr, hF⟩ := h
  exact ⟨h1, h2, F, c.row hr hb, hF⟩
theorem InAt.rd {w : World} {b cap W o : Nat} {num : Nat → Int} (h : InAt w b cap W num o) : RdA w (some ⟨b, 0, none⟩) 1 W cap (fun j => .int .i8 (num (o + j))) := by
  obtain ⟨h1, h2, F, hr, hF⟩ := h
  exact ⟨h1, h2, fun _ => ⟨b, 0, rfl, fun j hj => by rw [Nat.zero_add, hr.cell (by omega), hF j (by omega)]⟩⟩
theorem InAt.apart {w : World} {b cap W o m u : Nat} {num : Nat → Int} {t : TypeId} {G : Nat → Value} (h : InAt w b cap W num o) (k : w.rowIs u t m G) (hne : 295 ≠ t) : b ≠ u := by
  obtain ⟨_, _, F, hr, _⟩ := h
  exact type_apart hr k hne
theorem RefAt.chg {w w' : World} {x : Rx} {y : Ry} (h : RefAt w x y) {T : Nat → Prop} (c : Chg w w' T) (h1 : ¬ T x.g) (h2 : ¬ T x.cb) (h3 : ¬ T x.kb) (h4 : ¬ T x.vb) (h5 : ∀ i, i < x.n → ¬ T (y.ka i)) (h6 : ∀ i, i < x.n → ¬ T (y.va i)) : RefAt w' x y := by
  obtain ⟨F1, r1, f1⟩ := h.cnts
  obtain ⟨F2, r2, f2⟩ := h.ks
  obtain ⟨F3, r3, f3⟩ := h.vs
  exact ⟨c.row h.row h1, ⟨F1, c.row r1 h2, f1⟩, ⟨F2, c.row r2 h3, f2⟩, ⟨F3, c.row r3 h4, f3⟩, fun i hi => (h.kin i hi).chg c (h5 i hi), fun i hi => (h.vin i hi).chg c (h6 i hi), h.kv, h.hn, h.caps, h.hL, h.hW, h.hB, h.hS⟩
theorem RefAt.fresh {w w' : World} {x : Rx} {y : Ry} (h : RefAt w x y) (f : Below w.heap.size w w') : RefAt w' x y := h.chg (Chg.of_below (fun _ => False) f) id id id id (fun _ _ => id) (fun _ _ => id)
theorem RefAt.cells {w : World} {x : Rx} {y : Ry} (h : RefAt w x y) :
    w.cell? ⟨x.g, 0, none⟩ = some (.int .i64 x.L) ∧ w.cell? ⟨x.g, 1, none⟩ = some (.int .i64 x.W) ∧ w.cell? ⟨x.g, 2, none⟩ = some (.int .i64 x.B) ∧ w.cell? ⟨x.g, 3, none⟩ = some (.int .i64 x.S) ∧ w.cell? ⟨x.g, 4, none⟩ = some (.slice (some ⟨x.cb, 0, none⟩) x.B x.cc) ∧ w.cell? ⟨x.g, 5, none⟩ = some (.slice (some ⟨x.kb, 0, none⟩) x.n x.kc) ∧ w.cell? ⟨x.g, 6, none⟩ = some (.slice (some ⟨x.vb, 0, none⟩) x.n x.vc) :=
  ⟨h.row.cell (i := 0) (by decide), h.row.cell (i := 1) (by decide), h.row.cell (i := 2) (by decide), h.row.cell (i := 3) (by decide), h.row.cell (i := 4) (by decide), h.row.cell (i := 5) (by decide), h.row.cell (i := 6) (by decide)⟩
theorem RefAt.count {w : World} {x : Rx} {y : Ry} (h : RefAt w x y) {b : Nat} (hb : b < x.B) : w.cell? ⟨x.cb, b, none⟩ = some (.int .i64 (y.cnt b)) := by
  obtain ⟨F, r, f⟩ := h.cnts
  rw [r.cell (i := b) (by have := h.caps.1.1; omega), f b hb]
set_option maxHeartbeats 800000 in
theorem zeros_any (n : Nat) (w : World) (h0 : 0 < n) (hn : n ≤ 1000000) :
    Calls Tryz.prog 115 #[.int .i64 n] w fun e w' => ∃ b cap, e = .returned (.slice (some ⟨b, 0, none⟩) n cap) ∧ w.heap.size ≤ b ∧ InAt w' b cap n (fun _ => 0) 0 ∧ Below w.heap.size w w' := by
  go_enter Tryz.func115, Tryz.ntmps115
  go_wp2
  go_loopw [3, 4] (fun v i wr => ∃ k : Nat, k ≤ n ∧ i = .int .i64 k ∧ Own wr w.heap.size 295 1 v k (fun _ => .int .i8 0) ∧ Below w.heap.size w wr) (fun _ i _ => n - (intOf i).toNat)
  case atStart => exact ⟨0, by omega, rfl, own_nil _ _ _ _ _, Below.refl _ _⟩
  case round =>
    obtain ⟨k, hk, rfl, hown, hf⟩ := hrel
    have hsz := hf.size
    by_cases hlt : k < n
    · go_wp2_with (at_builtin; refine wpList_app1 _ rfl _ _ 24 rfl w.heap.size 295 (.int .i8 0) 1 Tryz.underlying24 infoI8 rfl _ k _ rfl (hown.kept (fresh_alloc _ _)) _ 1 rfl (new_cell _ _ _) rfl (by omega) (by omega) (by simp; omega) ?_)
      intro v' w1 hown' happ
      have hf1 := happ.below (hf.alloc hsz _) (hown.kept (fresh_alloc _ _)) (Nat.le_refl _) (by simp; omega)
      clear happ hown
      go_wp2
      go_roundw
      case rel => exact ⟨k + 1, by omega, by go_num, hown', hf1⟩
      case measure => simp [intOf]; omega
    · obtain rfl : k = n := by omega
      obtain ⟨b, c, F, rfl, h1, h2, h3, hr, hF⟩ := Own.row1 hown h0
      go_wp2
      go_ret
      exact ⟨b, c, rfl, h3, ⟨h1, h2, F, hr, hF⟩, hf⟩
end Go.Proofs.YtmhjpfjhppcfoaaGreatDoor
namespace Go.Proofs.YtmhjpfjhppcfoaaGreatDoor
open Go.RowKit
/-! The reference's New: what its loops keep. -/
theorem Own.apart {w : World} {base b m sz : Nat} {e u : TypeId} {v : Value} {n : Nat} {cs G : Nat → Value} (h : Own w base e sz v n cs) (k : w.rowIs b u m G) (hne : e ≠ u) : v.ownBlock ≠ some b := fun hb => by
  rcases h.2 with ⟨rfl, rfl⟩ | ⟨g, cap, cur, rfl, _, hg, _⟩
  · simp [Value.ownBlock] at hb
  · obtain rfl : g = b := by simpa [Value.ownBlock] using hb
    obtain ⟨d, hd, _, _⟩ := k
    rw [hg] at hd
    cases hd
    exact hne rfl
theorem Own.offU {w : World} {b1 b2 s1 s2 n1 n2 : Nat} {e1 e2 : TypeId} {v u : Value} {c1 c2 : Nat → Value} (h : Own w b1 e1 s1 v n1 c1) (k : Own w b2 e2 s2 u n2 c2) (hne : e1 ≠ e2) : Off v u := fun x hx hy => by
  rcases h.2 with ⟨rfl, rfl⟩ | ⟨g, cap, cur, rfl, _, hg, _⟩
  · simp [Value.ownBlock] at hx
  · rcases k.2 with ⟨rfl, rfl⟩ | ⟨g', cap', cur', rfl, _, hg', _⟩
    · simp [Value.ownBlock] at hy
    · obtain rfl : g = x := by simpa [Value.ownBlock] using hx
      obtain rfl : g' = g := by simpa [Value.ownBlock] using hy
      rw [hg] at hg'
      cases hg'
      exact hne rfl
structure NewI (w0 w : World) (L W B S : Nat) (vc vk vv : Value) (c i j : Nat) (ka va kx vx : Nat → Nat) : Prop where
  row : w.rowIs w0.heap.size 232 7 (seven (.int .i64 L) (.int .i64 W) (.int .i64 B) (.int .i64 S) vc vk vv)
  c : Own w (w0.heap.size + 1) 3 1 vc c (fun _ => .int .i64 0)
  k : Own w (w0.heap.size + 1) 24 1 vk i (fun t => .slice (some ⟨ka t, 0, none⟩) W (kx t))
  v : Own w (w0.heap.size + 1) 24 1 vv j (fun t => .slice (some ⟨va t, 0, none⟩) W (vx t))
  off : Off vk vv
  kin : ∀ t, t < i → InAt w (ka t) (kx t) W (fun _ => 0) 0
  vin : ∀ t, t < j → InAt w (va t) (vx t) W (fun _ => 0) 0
  low : Below w0.heap.size w0 w
  sz : w0.heap.size + 1 ≤ w.heap.size
theorem NewI.fresh {w0 w w' : World} {L W B S : Nat} {vc vk vv : Value} {c i j : Nat} {ka va kx vx : Nat → Nat} (h : NewI w0 w L W B S vc vk vv c i j ka va kx vx) (f : Below w.heap.size w w') : NewI w0 w' L W B S vc vk vv c i j ka va kx vx := by
  have cf := Chg.of_below (fun _ => False) f
  exact ⟨cf.row h.row id, h.c.kept f, h.k.kept f, h.v.kept f, h.off, fun t ht => (h.kin t ht).chg cf id, fun t ht => (h.vin t ht).chg cf id, fresh_trans h.low f, Nat.le_trans h.sz f.size⟩
theorem seven_set {a b c d e f g u : Value} {w : World} {p : Nat} (h : w.rowIs p 232 7 (seven a b c d e f g)) : (w.setCell ⟨p, 4, none⟩ u).rowIs p 232 7 (seven a b c d u f g) ∧ (w.setCell ⟨p, 5, none⟩ u).rowIs p 232 7 (seven a b c d e u g) ∧ (w.setCell ⟨p, 6, none⟩ u).rowIs p 232 7 (seven a b c d e f u) := by
  refine ⟨(h.set 4 u).congr (fun i hi => ?_), (h.set 5 u).congr (fun i hi => ?_), (h.set 6 u).congr (fun i hi => ?_)⟩ <;>
    (match i, hi with
    | 0, _ => rfl
    | 1, _ => rfl
    | 2, _ => rfl
    | 3, _ => rfl
    | 4, _ => rfl
    | 5, _ => rfl
    | 6, _ => rfl)
/-- a count more -/
theorem NewI.pushC {w0 w w6 : World} {L W B S : Nat} {vc vk vv vc' : Value} {c i j : Nat} {ka va kx vx : Nat → Nat} (h : NewI w0 w L W B S vc vk vv c i j ka va kx vx) (o : Obj) (hown : Own w6 (w0.heap.size + 1) 3 1 vc' (c + 1) (fun _ => .int .i64 0)) (happ : App (w.alloc o) w6 vc vc') :
    w6.rowIs w0.heap.size 232 7 (seven (.int .i64 L) (.int .i64 W) (.int .i64 B) (.int .i64 S) vc vk vv) ∧ NewI w0 (w6.setCell ⟨w0.heap.size, 4, none⟩ vc') L W B S vc' vk vv (c + 1) i j ka va kx vx := by
  have h1 := h.fresh (fresh_alloc w o)
  have ca := Chg.of_app happ
  have r6 := ca.row h1.row (h1.c.apart h1.row (by decide))
  have k6 := happ.own h1.k (h1.c.offU h1.k (by decide))
  have v6 := happ.own h1.v (h1.c.offU h1.v (by decide))
  have cs := Chg.of_set w6 w0.heap.size 4 vc'
  have b6 : Below w0.heap.size w0 w6 := happ.below h1.low h1.c (by omega) (by have := h1.sz; omega)
  refine ⟨r6, (seven_set r6).1, Own.chg cs hown (fun b hb e => by have := (hown.lt b hb).1; omega), Own.chg cs k6 (fun b hb e => by have := (k6.lt b hb).1; omega), Own.chg cs v6 (fun b hb e => by have := (v6.lt b hb).1; omega), h1.off, fun t ht => ?_, fun t ht => ?_, ?_, ?_⟩
  · obtain ⟨_, _, F, r, _⟩ := h1.kin t ht
    have q := (h1.kin t ht).chg ca (h1.c.apart r (by decide))
    exact q.chg cs (q.apart r6 (by decide))
  · obtain ⟨_, _, F, r, _⟩ := h1.vin t ht
    have q := (h1.vin t ht).chg ca (h1.c.apart r (by decide))
    exact q.chg cs (q.apart r6 (by decide))
  · refine b6.setCell ?_ _
    exact Nat.le_refl _
  · have := h1.sz; have := happ.grown.size; simp; omega
/-- a list more, K -/
theorem NewI.pushK {w0 w w6 : World} {L W B S a ac : Nat} {vc vk vv vk' : Value} {c i j : Nat} {ka va kx vx : Nat → Nat} (h : NewI w0 w L W B S vc vk vv c i j ka va kx vx) (hin : InAt w a ac W (fun _ => 0) 0) (o : Obj) (hown : Own w6 (w0.heap.size + 1) 24 1 vk' (i + 1) (fun t => .slice (some ⟨updN ka i a t, 0, none⟩) W (updN kx i ac t))) (happ : App (w.alloc o) w6 vk vk') :
    w6.rowIs w0.heap.size 232 7 (seven (.int .i64 L) (.int .i64 W) (.int .i64 B) (.int .i64 S) vc vk vv) ∧ NewI w0 (w6.setCell ⟨w0.heap.size, 5, none⟩ vk') L W B S vc vk' vv c (i + 1) j (updN ka i a) va (updN kx i ac) vx := by
  have h1 := h.fresh (fresh_alloc w o)
  have hin1 := hin.chg (Chg.of_below (fun _ => False) (fresh_alloc w o)) id
  have ca := Chg.of_app happ
  have r6 := ca.row h1.row (h1.k.apart h1.row (by decide))
  have c6 := happ.own h1.c (h1.k.offU h1.c (by decide))
  have o6 := happ.own h1.v h1.off
  have cs := Chg.of_set w6 w0.heap.size 5 vk'
  have b6 : Below w0.heap.size w0 w6 := happ.below h1.low h1.k (by omega) (by have := h1.sz; omega)
  refine ⟨r6, (seven_set r6).2.1, Own.chg cs c6 (fun b hb e => by have := (c6.lt b hb).1; omega), Own.chg cs hown (fun b hb e => by have := (hown.lt b hb).1; omega), Own.chg cs o6 (fun b hb e => by have := (o6.lt b hb).1; omega), happ.off h1.v h1.off, ?_, ?_, ?_, ?_⟩
  · intro t ht
    by_cases e : t = i
    · rw [e, updN_at, updN_at]
      have hin2 := hin1
      obtain ⟨_, _, F, r, _⟩ := hin2
      have q := hin1.chg ca (h1.k.apart r (by decide))
      exact q.chg cs (q.apart r6 (by decide))
    · rw [updN_ne _ _ e, updN_ne _ _ e]
      have ht' : t < i := by omega
      obtain ⟨_, _, F, r, _⟩ := h1.kin t ht'
      have q := (h1.kin t ht').chg ca (h1.k.apart r (by decide))
      exact q.chg cs (q.apart r6 (by decide))
  · intro t ht
    obtain ⟨_, _, F, r, _⟩ := h1.vin t ht
    have q := (h1.vin t ht).chg ca (h1.k.apart r (by decide))
    exact q.chg cs (q.apart r6 (by decide))
  · refine b6.setCell ?_ _
    exact Nat.le_refl _
  · have := h1.sz; have := happ.grown.size; simp; omega
/-- a list more, V -/
theorem NewI.pushV {w0 w w6 : World} {L W B S a ac : Nat} {vc vk vv vv' : Value} {c i j : Nat} {ka va kx vx : Nat → Nat} (h : NewI w0 w L W B S vc vk vv c i j ka va kx vx) (hin : InAt w a ac W (fun _ => 0) 0) (o : Obj) (hown : Own w6 (w0.heap.size + 1) 24 1 vv' (j + 1) (fun t => .slice (some ⟨updN va j a t, 0, none⟩) W (updN vx j ac t))) (happ : App (w.alloc o) w6 vv vv') :
    w6.rowIs w0.heap.size 232 7 (seven (.int .i64 L) (.int .i64 W) (.int .i64 B) (.int .i64 S) vc vk vv) ∧ NewI w0 (w6.setCell ⟨w0.heap.size, 6, none⟩ vv') L W B S vc vk vv' c i (j + 1) ka (updN va j a) kx (updN vx j ac) := by
  have h1 := h.fresh (fresh_alloc w o)
  have hin1 := hin.chg (Chg.of_below (fun _ => False) (fresh_alloc w o)) id
  have ca := Chg.of_app happ
  have r6 := ca.row h1.row (h1.v.apart h1.row (by decide))
  have c6 := happ.own h1.c (h1.v.offU h1.c (by decide))
  have o6 := happ.own h1.k h1.off.symm
  have cs := Chg.of_set w6 w0.heap.size 6 vv'
  have b6 : Below w0.heap.size w0 w6 := happ.below h1.low h1.v (by omega) (by have := h1.sz; omega)
  refine ⟨r6, (seven_set r6).2.2, Own.chg cs c6 (fun b hb e => by have := (c6.lt b hb).1; omega), Own.chg cs o6 (fun b hb e => by have := (o6.lt b hb).1; omega), Own.chg cs hown (fun b hb e => by have := (hown.lt b hb).1; omega), (happ.off h1.k h1.off.symm).symm, ?_, ?_, ?_, ?_⟩
  · intro t ht
    obtain ⟨_, _, F, r, _⟩ := h1.kin t ht
    have q := (h1.kin t ht).chg ca (h1.v.apart r (by decide))
    exact q.chg cs (q.apart r6 (by decide))
  · intro t ht
    by_cases e : t = j
    · rw [e, updN_at, updN_at]
      have hin2 := hin1
      obtain ⟨_, _, F, r, _⟩ := hin2
      have q := hin1.chg ca (h1.v.apart r (by decide))
      exact q.chg cs (q.apart r6 (by decide))
    · rw [updN_ne _ _ e, updN_ne _ _ e]
      have ht' : t < j := by omega
      obtain ⟨_, _, F, r, _⟩ := h1.vin t ht'
      have q := (h1.vin t ht').chg ca (h1.v.apart r (by decide))
      exact q.chg cs (q.apart r6 (by decide))
  · refine b6.setCell ?_ _
    exact Nat.le_refl _
  · have := h1.sz; have := happ.grown.size; simp; omega
end Go.Proofs.YtmhjpfjhppcfoaaGreatDoor
namespace Go.Proofs.YtmhjpfjhppcfoaaGreatDoor
open Go.RowKit
/-! The reference's New. -/
theorem seven_new (w : World) (a b c d e f g : Value) : (w.alloc (.cells #[a, b, c, d, e, f, g] 232)).rowIs w.heap.size 232 7 (seven a b c d e f g) :=
  World.rowIs_alloc w #[a, b, c, d, e, f, g] 232 _ (fun i hi => by
    match i, hi with
    | 0, _ => rfl
    | 1, _ => rfl
    | 2, _ => rfl
    | 3, _ => rfl
    | 4, _ => rfl
    | 5, _ => rfl
    | 6, _ => rfl)
theorem newI_start (w : World) (L W B S : Nat) (ka va kx vx : Nat → Nat) : NewI w (w.alloc (.cells #[.int .i64 L, .int .i64 W, .int .i64 B, .int .i64 S, .slice none 0 0, .slice none 0 0, .slice none 0 0] 232)) L W B S (.slice none 0 0) (.slice none 0 0) (.slice none 0 0) 0 0 0 ka va kx vx :=
  ⟨seven_new w _ _ _ _ _ _ _, own_nil _ _ _ _ _, own_nil _ _ _ _ _, own_nil _ _ _ _ _, off_nil _, fun t ht => absurd ht (by omega), fun t ht => absurd ht (by omega), fresh_alloc _ _, by simp⟩
theorem NewI.stayK {w0 w w6 : World} {L W B S b bc m p : Nat} {vc vk vv vk' : Value} {c i j : Nat} {ka va kx vx : Nat → Nat} {num : Nat → Int} {F : Nat → Value} (h : NewI w0 w L W B S vc vk vv c i j ka va kx vx) (q : InAt w b bc m num p) (o : Obj) (happ : App (w.alloc o) w6 vk vk') (r6 : w6.rowIs w0.heap.size 232 7 F) (u : Value) : InAt (w6.setCell ⟨w0.heap.size, 5, none⟩ u) b bc m num p := by
  have q0 := q.chg (Chg.of_below (fun _ => False) (fresh_alloc w o)) id
  have q0' := q0
  obtain ⟨_, _, G, r, _⟩ := q0'
  have q1 := q0.chg (Chg.of_app happ) ((h.k.kept (fresh_alloc w o)).apart r (by decide))
  exact q1.chg (Chg.of_set w6 w0.heap.size 5 u) (q1.apart r6 (by decide))
set_option maxRecDepth 20000 in
set_option maxHeartbeats 4000000 in
theorem rnew_ok (w : World) {L W B S : Nat} (hL : 1 ≤ L ∧ L ≤ 4) (hW : 1 ≤ W ∧ W ≤ 32) (hB : 1 ≤ B ∧ B ≤ 256) (hS : 1 ≤ S ∧ S ≤ 16) :
    Calls Tryz.prog 64 #[.int .i64 L, .int .i64 W, .int .i64 B, .int .i64 S] w fun e w' => e = .returned (.tuple #[.pointer (some ⟨w.heap.size, 0, none⟩), .int .i64 0]) ∧ Below w.heap.size w w' := by
  obtain ⟨BS, hBS⟩ : ∃ BS, BS = B * S := ⟨_, rfl⟩
  obtain ⟨n, hn⟩ : ∃ n, n = BS * L := ⟨_, rfl⟩
  have e1 : (B : Int) * (S : Int) = (BS : Int) := by rw [hBS]; push_cast; rfl
  have e2 : (BS : Int) * (L : Int) = (n : Int) := by rw [hn]; push_cast; rfl
  have hBSb : BS ≤ 4096 := by rw [hBS]; have := Nat.mul_le_mul hB.2 hS.2; omega
  have hnb : n ≤ 16384 := by rw [hn]; have := Nat.mul_le_mul hBSb hL.2; omega
  have HN : Hid (n = B * S * L) := by show n = _; rw [hn, hBS]
  have H0 := hidd (newI_start w L W B S (fun _ => 0) (fun _ => 0) (fun _ => 0) (fun _ => 0))
  clear hBS hn
  have g1 : ¬ (L : Int) < 1 := by omega
  have g2 : ¬ (4 : Int) < (L : Int) := by omega
  have g3 : ¬ (W : Int) < 1 := by omega
  have g4 : ¬ (32 : Int) < (W : Int) := by omega
  have g5 : ¬ (B : Int) < 1 := by omega
  have g6 : ¬ (256 : Int) < (B : Int) := by omega
  have g7 : ¬ (S : Int) < 1 := by omega
  have g8 : ¬ (16 : Int) < (S : Int) := by omega
  go_enter Tryz.func64, Tryz.ntmps64
  go_wp2
  go_loopw [11] (fun i wr => ∃ (k : Nat) (vc : Value), k ≤ B ∧ i = .int .i64 k ∧ NewI w wr L W B S vc (.slice none 0 0) (.slice none 0 0) k 0 0 (fun _ => 0) (fun _ => 0) (fun _ => 0) (fun _ => 0)) (fun i _ => B - (intOf i).toNat)
  case atStart => exact ⟨0, _, by omega, rfl, H0.out⟩
  case round =>
    clear H0
    obtain ⟨k, vc, hk, rfl, hI⟩ := hrel
    have hsz := hI.sz
    by_cases hlt : k < B
    · obtain ⟨ao, cap, rfl, _⟩ := hI.c.rd
      have c4 := hI.row.cell (i := 4) (by decide)
      have c4' : wr.cell? ⟨w.heap.size, 4, none⟩ = some (.slice ao k cap) := c4
      clear c4
      have HI := hidd hI
      have HX : Hid (∀ (w0 : World) (ty : TypeId), (w0.alloc (.cells #[.int .i64 0] ty)).cell? ⟨w0.heap.size, 0, none⟩ = some ((fun _ => Value.int .i64 0) k)) := fun w0 ty => new_cell _ _ _
      clear hI
      go_wp2_with (at_builtin; refine wpList_app1 _ rfl _ _ 40 rfl (w.heap.size + 1) 3 (.int .i64 0) 8 Tryz.underlying40 infoI rfl _ k (fun _ => .int .i64 0) rfl (HI.out.c.kept (fresh_alloc _ _)) _ 1 rfl (HX.out _ _) rfl (by omega) (by omega) (by simp; omega) ?_)
      intro v' w6 hown happ
      obtain ⟨r6, h6⟩ := HI.out.pushC _ hown happ
      have e0 : w6.cell? ⟨w.heap.size, 4, none⟩ = some (.slice ao k cap) := r6.cell (i := 4) (by decide)
      have fz := r6.frozen
      have H6 := hidd h6
      obtain ⟨a2, k2', rfl, _⟩ := hown.rd
      clear hown happ r6 h6 HI HX c4'
      go_wp2
      go_roundw
      case rel => exact ⟨k + 1, _, by omega, by go_num, H6.out⟩
      case measure => simp [intOf]; omega
    · obtain rfl : k = B := by omega
      have HI := hidd hI
      clear hI
      go_wp2
      go_loopw [12] (fun i wx => ∃ (t : Nat) (vk vv : Value) (ka va kx vx : Nat → Nat), t ≤ n ∧ i = .int .i64 t ∧ Hid (∀ u, u < t → w.heap.size ≤ ka u ∧ w.heap.size ≤ va u) ∧ NewI w wx L W k S vc vk vv k t t ka va kx vx) (fun i _ => n - (intOf i).toNat)
      case atStart => exact ⟨0, _, _, _, _, _, _, by omega, rfl, fun u hu => absurd hu (by omega), HI.out⟩
      case round =>
        clear HI hsz
        obtain ⟨t, vk, vv, ka, va, kx, vx, ht, rfl, HGE, hI⟩ := hrel
        by_cases hlt2 : t < n
        · have b1 : decide ((t : Int) < (n : Int)) = true := decide_eq_true (by omega)
          have HI := hidd hI
          have HZ1 : Hid (Calls Tryz.prog 115 #[.int .i64 W] wr fun e w' => ∃ a ac, e = .returned (.slice (some ⟨a, 0, none⟩) W ac) ∧ Hid (NewI w w' L W k S vc vk vv k t t ka va kx vx ∧ InAt w' a ac W (fun _ => 0) 0 ∧ w.heap.size ≤ a)) := by
            refine (zeros_any W wr (by omega) (by omega)).mono ?_
            rintro e w' ⟨a, ac, rfl, hge, q1, q2⟩
            exact ⟨a, ac, rfl, HI.out.fresh q2, q1, Nat.le_trans HI.out.low.size hge⟩
          have HZ2 : Hid (∀ (z : World) (a ac : Nat), Hid (NewI w z L W k S vc vk vv k t t ka va kx vx ∧ InAt z a ac W (fun _ => 0) 0 ∧ w.heap.size ≤ a) → Calls Tryz.prog 115 #[.int .i64 W] z fun e w' => ∃ a2 ac2, e = .returned (.slice (some ⟨a2, 0, none⟩) W ac2) ∧ Hid (NewI w w' L W k S vc vk vv k t t ka va kx vx ∧ InAt w' a ac W (fun _ => 0) 0 ∧ InAt w' a2 ac2 W (fun _ => 0) 0 ∧ w.heap.size ≤ a ∧ w.heap.size ≤ a2)) := fun z a ac hz => by
            refine (zeros_any W z (by omega) (by omega)).mono ?_
            rintro e w' ⟨a2, ac2, rfl, hge, q1, q2⟩
            exact ⟨a2, ac2, rfl, hz.1.fresh q2, hz.2.1.chg (Chg.of_below (fun _ => False) q2) id, q1, hz.2.2, Nat.le_trans hz.1.low.size hge⟩
          clear hI HI
          go_upto_region 13 with (first
            | (go_at_call 115; with_reducible refine HZ1.out.mono ?_; rintro e w1 ⟨a, ac, rfl, H1⟩; clear HZ1)
            | (go_at_call 115; with_reducible refine (HZ2.out _ _ _ H1).mono ?_; rintro e w2 ⟨a2, ac2, rfl, H2⟩; clear HZ2))
          clear H1
          obtain ⟨ko, kcap, hvk, _⟩ := H2.out.1.k.rd
          subst hvk
          have c5 : w2.cell? ⟨w.heap.size, 5, none⟩ = some (.slice ko t kcap) := H2.out.1.row.cell (i := 5) (by decide)
          have hsz2 := H2.out.1.sz
          have HKO : Hid (Own w2 (w.heap.size + 1) 24 1 (.slice ko t kcap) t (fun u => .slice (some ⟨updN ka t a u, 0, none⟩) W (updN kx t ac u))) := H2.out.1.k.congr (fun u hu => by rw [updN_ne _ _ (by omega), updN_ne _ _ (by omega)])
          have HX : Hid (∀ (w0 : World) (ty : TypeId), (w0.alloc (.cells #[.slice (some ⟨a, 0, none⟩) W ac] ty)).cell? ⟨w0.heap.size, 0, none⟩ = some ((fun u => Value.slice (some ⟨updN ka t a u, 0, none⟩) W (updN kx t ac u)) t)) := fun w0 ty => by rw [new_cell]; simp only [updN_at]
          go_wp2_with (at_builtin; refine wpList_app1 _ rfl _ _ 193 rfl (w.heap.size + 1) 24 (.slice none 0 0) 24 Tryz.underlying193 infoSI8 rfl _ t (fun u => .slice (some ⟨updN ka t a u, 0, none⟩) W (updN kx t ac u)) rfl (HKO.out.kept (fresh_alloc _ _)) _ 1 rfl (HX.out _ _) rfl (by omega) (by omega) (by simp; omega) ?_)
          intro v' w6 hown happ
          obtain ⟨r6, h6⟩ := H2.out.1.pushK H2.out.2.1 _ hown happ
          have e5 : w6.cell? ⟨w.heap.size, 5, none⟩ = some (.slice ko t kcap) := r6.cell (i := 5) (by decide)
          have fz := r6.frozen
          have q2 := H2.out.1.stayK H2.out.2.2.1 _ happ r6 v'
          have HG2 := hidd H2.out.2.2.2
          have H6 := hidd h6
          have Q2 := hidd q2
          obtain ⟨a3, k3, rfl, _⟩ := hown.rd
          clear hown happ r6 h6 q2 H2 HKO HX c5 hsz2
          go_upto_region 14 with fail
          generalize w6.setCell ⟨w.heap.size, 5, none⟩ (.slice a3 (t + 1) k3) = w7 at *
          clear e5 fz
          obtain ⟨vo, vcap, hvv, _⟩ := H6.out.v.rd
          subst hvv
          have c6 : w7.cell? ⟨w.heap.size, 6, none⟩ = some (.slice vo t vcap) := H6.out.row.cell (i := 6) (by decide)
          have hsz2 := H6.out.sz
          have HVO : Hid (Own w7 (w.heap.size + 1) 24 1 (.slice vo t vcap) t (fun u => .slice (some ⟨updN va t a2 u, 0, none⟩) W (updN vx t ac2 u))) := H6.out.v.congr (fun u hu => by rw [updN_ne _ _ (by omega), updN_ne _ _ (by omega)])
          have HX : Hid (∀ (w0 : World) (ty : TypeId), (w0.alloc (.cells #[.slice (some ⟨a2, 0, none⟩) W ac2] ty)).cell? ⟨w0.heap.size, 0, none⟩ = some ((fun u => Value.slice (some ⟨updN va t a2 u, 0, none⟩) W (updN vx t ac2 u)) t)) := fun w0 ty => by rw [new_cell]; simp only [updN_at]
          go_wp2_with (at_builtin; refine wpList_app1 _ rfl _ _ 193 rfl (w.heap.size + 1) 24 (.slice none 0 0) 24 Tryz.underlying193 infoSI8 rfl _ t (fun u => .slice (some ⟨updN va t a2 u, 0, none⟩) W (updN vx t ac2 u)) rfl (HVO.out.kept (fresh_alloc _ _)) _ 1 rfl (HX.out _ _) rfl (by omega) (by omega) (by simp; omega) ?_)
          intro v' w8 hown happ
          obtain ⟨r8, h8⟩ := H6.out.pushV Q2.out _ hown happ
          have e6 : w8.cell? ⟨w.heap.size, 6, none⟩ = some (.slice vo t vcap) := r8.cell (i := 6) (by decide)
          have fz := r8.frozen
          have H8 := hidd h8
          obtain ⟨a4, k4, rfl, _⟩ := hown.rd
          clear hown happ r8 h8 Q2 H6 HVO HX c6 hsz2
          go_wp2
          go_roundw
          case rel => exact ⟨t + 1, _, _, _, _, _, _, by omega, by go_num, fun u hu => (by
            unfold updN
            by_cases e : u = t
            · rw [if_pos e, if_pos e]; exact HG2.out
            · rw [if_neg e, if_neg e]; exact HGE.out u (by omega)), H8.out⟩
          case measure => simp [intOf]; omega
        · obtain rfl : t = n := by omega
          have b1 : decide ((t : Int) < (t : Int)) = false := decide_eq_false (by omega)
          have HI := hidd hI
          clear hI
          go_wp2
          go_ret2
          exact ⟨rfl, HI.out.low⟩
end Go.Proofs.YtmhjpfjhppcfoaaGreatDoor
