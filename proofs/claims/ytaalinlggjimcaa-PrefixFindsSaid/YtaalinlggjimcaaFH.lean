import Derived.Test.YtaalinlggjimcaaFG
namespace Go.Proofs.Ytaalinlggjimcaa
open Go.RowKit
/-! PrefixFinds: the calls of a round. -/
theorem Long.same {C : Nat} {L : List Nd} {P : List (List Int)} {k b o : Nat} (h : Long C L P k b o) {f : Nd → Nd} (hf : Same f) : Long C (L.map f) P k b o :=
  ⟨h.le, hf.adr h.adr, fun j h1 h2 x hx => by
    obtain ⟨y, hy, rfl⟩ := List.mem_map.1 hx
    rw [hf.path]
    exact h.no j h1 h2 y hy⟩
def noF (A : Nat → Prop) (cb nb pg : Nat) : Nat → Prop := fun z => A z ∨ z = cb ∨ z = nb ∨ z = pg
structure Fm (w0 w : World) (c : Ca) (A : Nat → Prop) (L : List Nd) (N cb nb S : Nat) (cnt : Nat → Nat) (num : Nat → Int) (vK vF : Value) (r : Nat) (Kv Bv : Nat → Value) (Ln : Nat → Nat) (G : Nat → Nat → Nat) : Prop where
  cache : CacheAt w c A L N
  pool : PoolAt w c.pg cb nb 1 1 c.B S cnt num
  hS : c.S = S
  hB : c.B = 256
  o1 : ¬ A c.pg
  o2 : ¬ A cb
  o3 : ¬ A nb
  lo : ∀ z, A z → w0.heap.size ≤ z
  l1 : w0.heap.size ≤ cb
  l2 : w0.heap.size ≤ nb
  ls : Ls w0.heap.size w (noF A cb nb c.pg) vK vF r S Kv Bv Ln G
  low : Below w0.heap.size w0 w
section
variable {w0 w w' : World} {c : Ca} {A : Nat → Prop} {L : List Nd} {N cb nb S : Nat} {cnt : Nat → Nat} {num : Nat → Int} {vK vF : Value} {r : Nat} {Kv Bv : Nat → Value} {Ln : Nat → Nat} {G : Nat → Nat → Nat}
theorem Fm.fresh (h : Fm w0 w c A L N cb nb S cnt num vK vF r Kv Bv Ln G) (f : Below w.heap.size w w') : Fm w0 w' c A L N cb nb S cnt num vK vF r Kv Bv Ln G :=
  ⟨h.cache.fresh f, h.pool.fresh f, h.hS, h.hB, h.o1, h.o2, h.o3, h.lo, h.l1, h.l2, h.ls.fresh f, h.low.trans (f.mono h.low.size)⟩
theorem Fm.congr (h : Fm w0 w c A L N cb nb S cnt num vK vF r Kv Bv Ln G) {Kv' Bv' : Nat → Value} {Ln' : Nat → Nat} {G' : Nat → Nat → Nat} (e1 : ∀ i, i < r → Kv i = Kv' i) (e2 : ∀ i, i < r → Bv i = Bv' i) (e3 : ∀ i, i < r → Ln i = Ln' i) (e4 : ∀ i, i < r → G i = G' i) : Fm w0 w c A L N cb nb S cnt num vK vF r Kv' Bv' Ln' G' :=
  ⟨h.cache, h.pool, h.hS, h.hB, h.o1, h.o2, h.o3, h.lo, h.l1, h.l2, h.ls.congr e1 e2 e3 e4, h.low⟩
/-- a list that the round made: nobody else's -/
structure Lone (w0 w : World) (A : Nat → Prop) (cb nb pg : Nat) (vK vF v : Value) (n : Nat) (g : Nat → Nat) : Prop where
  own : Own w w0.heap.size 3 1 v n (fun j => .int .i64 (g j : Int))
  free : ∀ z, v.ownBlock = some z → ¬ noF A cb nb pg z
  k : Off vK v
  f : Off vF v
theorem Lone.chg {X A' : Nat → Prop} {pg : Nat} {v : Value} {n : Nat} {g : Nat → Nat} (h : Lone w0 w A cb nb pg vK vF v n g) (k : Chg w w' X) (hX : ∀ z, X z → noF A cb nb pg z) (hF : ∀ z, A' z → A z ∨ w.heap.size ≤ z) : Lone w0 w' A' cb nb pg vK vF v n g :=
  ⟨h.own.chg k (fun z hz e => h.free z hz (hX z e)), fun z hz e => by
    rcases e with e | e
    · rcases hF z e with e | e
      · exact h.free z hz (.inl e)
      · have := (h.own.lt z hz).2; omega
    · exact h.free z hz (.inr e), h.k, h.f⟩
theorem Lone.fresh {pg : Nat} {v : Value} {n : Nat} {g : Nat → Nat} (h : Lone w0 w A cb nb pg vK vF v n g) (f : Below w.heap.size w w') : Lone w0 w' A cb nb pg vK vF v n g :=
  h.chg (Chg.of_below (fun _ => False) f) (fun _ e => e.elim) (fun _ e => .inl e)
theorem fm_taken (h : Fm w0 w c A L N cb nb S cnt num vK vF r Kv Bv Ln G) {n : Nat} (hn : n ≤ freeN cnt c.B) :
    Calls Try.prog 25 #[.pointer (some ⟨c.pg, 0, none⟩), .int .i64 (n : Int)] w fun e w' => ∃ v g cnt' num', e = .returned (.tuple #[v, .bool true]) ∧ Fm w0 w' c A L N cb nb S cnt' num' vK vF r Kv Bv Ln G ∧ Lone w0 w' A cb nb c.pg vK vF v n g ∧ Tkn c.B cnt cnt' g n := by
  refine (taken_any h.pool hn).mono ?_
  rintro e w' ⟨v, g, cnt', num', rfl, hv, hp, ht, hc⟩
  have hsz := h.low.size
  refine ⟨v, g, cnt', num', rfl, ⟨h.cache.chg hc (fun z hz e => ?_), hp, h.hS, h.hB, h.o1, h.o2, h.o3, h.lo, h.l1, h.l2, h.ls.chg hc (fun z e => ?_) (fun _ e => .inl e), hc.below h.low hsz (fun z e => ?_)⟩, ⟨hv.weaken hsz, fun z hz e => ?_, fun z hk hz => ?_, fun z hk hz => ?_⟩, ht⟩
  · rcases e with rfl | rfl
    · exact h.o2 hz
    · exact h.o3 hz
  · rcases e with e | e
    · exact .inr (.inl e)
    · exact .inr (.inr (.inl e))
  · rcases e with rfl | rfl
    · exact h.l1
    · exact h.l2
  · have h1 := (hv.lt z hz).1
    have p1 := h.pool.row.lt
    have p2 := h.pool.cnts.lt
    have p3 := h.pool.nums.lt
    rcases e with e | e | e | e
    · have := h.cache.low z e; omega
    · omega
    · omega
    · omega
  · have h1 := (hv.lt z hz).1
    have := (h.ls.kown.lt z hk).2
    omega
  · have h1 := (hv.lt z hz).1
    have := (h.ls.fown.lt z hk).2
    omega
theorem fm_keep (h : Fm w0 w c A L N cb nb S cnt num vK vF r Kv Bv Ln G) (hN : N ≤ 4611686018427387904) {to : Option Addr} {T cap : Nat} {t : Nat → Int} (ht : RdA w to 1 T cap (fun i => .int .i64 (t i))) (hfit : ∀ i, i < T → fits (t i)) {n : Nat} {v : Value} {g : Nat → Nat} (hv : Lone w0 w A cb nb c.pg vK vF v n g) {cnt0 : Nat → Nat} (hk : Tkn c.B cnt0 cnt g n) (hct : Ct c.B cnt0 L) (hn : n = T / S) {k0 b0 o0 : Nat} (hl : Long c.C L (pcL t S n) k0 b0 o0) :
    Calls Try.prog 12 #[.pointer (some ⟨c.C, 0, none⟩), .slice to T cap, v] w fun e w' => e = .returned (.int .i64 0) ∧ ∃ A' L' news, Ext L (pcL t S n) g k0 (n - k0) L' news ∧ Fm w0 w' c A' (useL L' (pcL t S n) (N + 1)) (N + 1) cb nb S (addC cnt g k0 (n - k0)) num vK vF r Kv Bv Ln G ∧ Lone w0 w' A' cb nb c.pg vK vF v n g := by
  have hS := h.hS
  have hnB : n ≤ c.B := by have := hk.free; have := freeN_le cnt0 c.B; omega
  have hno : ∀ i, i < n → ∀ x ∈ L, x.blk ≠ g i := fun i hi x hx e => by
    have h1 := hct.one hx (h.cache.well.blk x hx)
    have h2 := hk.was i hi
    rw [← e] at h2
    omega
  refine (keep_any h.cache hN h.pool h.o1 h.o2 h.o3 ht hfit hv.own (fun z hz => ⟨fun e => hv.free z hz (.inl e), fun e => hv.free z hz (.inr (.inl e))⟩) (by rw [hS]; exact hn) hnB hk.lt hk.now hno hk.inj (by rw [hS]; exact hl)).mono ?_
  rintro e w' ⟨rfl, A', L', news, hK⟩
  rw [hS] at hK
  have e0 : (pcL t S n).length - k0 = n - k0 := by rw [pcL_len]
  have hext := hK.ext
  have hpool := hK.pool
  rw [e0] at hext hpool
  have hX : ∀ z, (A z ∨ z = cb) → noF A cb nb c.pg z := fun z e => by
    rcases e with e | e
    · exact .inl e
    · exact .inr (.inl e)
  have nA : ∀ z, ¬ A z → z < w.heap.size → ¬ A' z := fun z h4 h5 h6 => by
    rcases hK.dn z h6 with h7 | h7
    · exact h4 h7
    · omega
  refine ⟨rfl, A', L', news, hext, ⟨hK.cache, hpool, h.hS, h.hB, nA _ h.o1 h.pool.row.lt, nA _ h.o2 h.pool.cnts.lt, nA _ h.o3 h.pool.nums.lt, fun z hz => ?_, h.l1, h.l2, h.ls.chg hK.chg hX (fun z e => ?_), hK.chg.below h.low h.low.size (fun z e => ?_)⟩, hv.chg hK.chg hX hK.dn⟩
  · rcases hK.dn z hz with q | q
    · exact h.lo z q
    · exact Nat.le_trans h.low.size q
  · rcases e with e | e
    · rcases hK.dn z e with q | q
      · exact .inl (.inl q)
      · exact .inr q
    · exact .inl (.inr e)
  · rcases e with e | e
    · exact h.lo z e
    · rw [e]; exact h.l1
theorem fm_drop (h : Fm w0 w c A L N cb nb S cnt num vK vF r Kv Bv Ln G) {n : Nat} {v : Value} {g : Nat → Nat} (hv : Lone w0 w A cb nb c.pg vK vF v n g) {b : Nat} (hb : b < c.B) (h0 : cnt b ≠ 0) (h1 : cnt b ≤ 4611686018427387904) :
    Calls Try.prog 19 #[.pointer (some ⟨c.pg, 0, none⟩), .int .i64 (b : Int)] w fun e w' => e = .returned (.int .i64 0) ∧ Fm w0 w' c A L N cb nb S (updN cnt b (cnt b - 1)) num vK vF r Kv Bv Ln G ∧ Lone w0 w' A cb nb c.pg vK vF v n g := by
  refine (drop_ok h.pool hb h0 h1).mono ?_
  rintro e w' ⟨rfl, hp, hc⟩
  have hX : ∀ z, z = cb → noF A cb nb c.pg z := fun z e => .inr (.inl e)
  exact ⟨rfl, ⟨h.cache.chg hc (fun z hz e => h.o2 (by rw [← (show z = cb from e)]; exact hz)), hp, h.hS, h.hB, h.o1, h.o2, h.o3, h.lo, h.l1, h.l2, h.ls.chg hc hX (fun _ e => .inl e), hc.below h.low h.low.size (fun z e => by rw [(show z = cb from e)]; exact h.l1)⟩, hv.chg hc hX (fun _ e => .inl e)⟩
theorem fm_find (h : Fm w0 w c A L N cb nb S cnt num vK vF r Kv Bv Ln G) (hN : N ≤ 4611686018427387904) {to : Option Addr} {T cap : Nat} {t : Nat → Int} (ht : RdA w to 1 T cap (fun i => .int .i64 (t i))) (hfit : ∀ i, i < T → fits (t i)) :
    Calls Try.prog 11 #[.pointer (some ⟨c.C, 0, none⟩), .slice to T cap] w fun e w' => ∃ k b o g F L', e = .returned (.slice (some ⟨g, 0, none⟩) k k) ∧ Long c.C L (pcL t S (T / S)) k b o ∧ k ≤ 256 ∧ w'.rowIs g 3 k F ∧ (∀ j, j < k → ∀ x ∈ L, x.path = (pcL t S (T / S)).take (j + 1) → F j = .int .i64 x.blk) ∧ (∃ f, Same f ∧ L' = L.map f) ∧ Fm w0 w' c A L' (N + 1) cb nb S cnt num vK vF r Kv Bv Ln G := by
  have hS := h.hS
  refine (find_any h.cache hN ht hfit).mono ?_
  rintro e w' ⟨k, b, o, g, F, rfl, hl, hr, hF, hg, hC, hch⟩
  rw [hS] at hl hF
  have hk : k ≤ 256 := by
    have hle := hl.le
    rw [pcL_len] at hle
    have hB := h.hB
    rcases hl.adr with ⟨e, _⟩ | ⟨x, hx, e, _⟩
    · have := congrArg List.length e
      rw [List.length_take, pcL_len, Nat.min_eq_left hle] at this
      simp at this
      omega
    · have := h.cache.well.plen x hx
      rw [e, List.length_take, pcL_len] at this
      omega
  have hX : ∀ z, A z → noF A cb nb c.pg z := fun z e => .inl e
  exact ⟨k, b, o, g, F, _, rfl, hl, hk, hr, hF, ⟨_, mkF_same _ _ _, rfl⟩, ⟨hC, h.pool.chg hch h.o1 h.o2 h.o3, h.hS, h.hB, h.o1, h.o2, h.o3, h.lo, h.l1, h.l2, h.ls.chg hch hX (fun _ e => .inl e), hch.below h.low h.low.size (fun z e => h.lo z e)⟩⟩
end
end Go.Proofs.Ytaalinlggjimcaa
