import Derived.Test.YtaalinlggjimcaaMF
namespace Go.Proofs.Ytaalinlggjimcaa
open Go.RowKit
/-! PrefixFinds: counts, and the lists of the law. -/
def Ct (B : Nat) (cnt : Nat → Nat) (L : List Nd) : Prop := ∀ b, b < B → (cnt b = 1 ∧ ∃ x ∈ L, x.blk = b) ∨ (cnt b = 0 ∧ ∀ x ∈ L, x.blk ≠ b)
theorem Ct.one {B : Nat} {cnt : Nat → Nat} {L : List Nd} (h : Ct B cnt L) {x : Nd} (hx : x ∈ L) (hb : x.blk < B) : cnt x.blk = 1 := by
  rcases h x.blk hb with ⟨h1, _⟩ | ⟨_, h2⟩
  · exact h1
  · exact absurd rfl (h2 x hx)
theorem Ct.same {B : Nat} {cnt : Nat → Nat} {L : List Nd} (h : Ct B cnt L) {f : Nd → Nd} (hf : Same f) : Ct B cnt (L.map f) := fun b hb => by
  rcases h b hb with ⟨h1, x, hx, e⟩ | ⟨h1, h2⟩
  · exact .inl ⟨h1, f x, List.mem_map.2 ⟨x, hx, rfl⟩, by rw [hf.blk]; exact e⟩
  · refine .inr ⟨h1, fun x hx => ?_⟩
    obtain ⟨y, hy, rfl⟩ := List.mem_map.1 hx
    rw [hf.blk]; exact h2 y hy
theorem freeN_len (cnt : Nat → Nat) : ∀ B, freeN cnt B = ((List.range B).filter (fun b => decide (cnt b = 0))).length
  | 0 => rfl
  | B + 1 => by
    rw [List.range_succ, List.filter_append, List.length_append, ← freeN_len cnt B, show freeN cnt (B + 1) = freeN cnt B + (if cnt B = 0 then 1 else 0) from rfl]
    by_cases e : cnt B = 0
    · simp [e]
    · simp [e]
theorem Ct.sum {c : Ca} {N : Nat} {cnt : Nat → Nat} {L : List Nd} (hw : Well c L N) (h : Ct c.B cnt L) : L.length + freeN cnt c.B = c.B := by
  have hn1 : (L.map (·.blk)).Nodup := map_nodup _ _ hw.nodup hw.dblk
  have hn2 : ((List.range c.B).filter (fun b => decide (cnt b = 0))).Nodup := List.nodup_range.filter _
  have hnd : (L.map (·.blk) ++ (List.range c.B).filter (fun b => decide (cnt b = 0))).Nodup := by
    refine List.nodup_append.2 ⟨hn1, hn2, fun a ha b hb e => ?_⟩
    subst e
    obtain ⟨x, hx, rfl⟩ := List.mem_map.1 ha
    have h1 := h.one hx (hw.blk x hx)
    have h2 := (List.mem_filter.1 hb).2
    simp [h1] at h2
  have k1 := nodup_len _ (List.range c.B) hnd (fun b hb => by
    rcases List.mem_append.1 hb with hb | hb
    · obtain ⟨x, hx, rfl⟩ := List.mem_map.1 hb
      exact List.mem_range.2 (hw.blk x hx)
    · exact (List.mem_filter.1 hb).1)
  have k2 := nodup_len (List.range c.B) (L.map (·.blk) ++ (List.range c.B).filter (fun b => decide (cnt b = 0))) List.nodup_range (fun b hb => by
    rcases h b (List.mem_range.1 hb) with ⟨_, x, hx, e⟩ | ⟨h1, _⟩
    · exact List.mem_append.2 (.inl (List.mem_map.2 ⟨x, hx, e⟩))
    · exact List.mem_append.2 (.inr (List.mem_filter.2 ⟨hb, by simp [h1]⟩)))
  rw [List.length_append, List.length_map, ← freeN_len, List.length_range] at k1 k2
  omega
/-- dropped, one by one -/
def dC (cnt : Nat → Nat) (G : Nat → Nat) : Nat → Nat → Nat
  | 0 => cnt
  | j + 1 => updN (dC cnt G j) (G j) (dC cnt G j (G j) - 1)
theorem dC_off (cnt : Nat → Nat) (G : Nat → Nat) {b : Nat} : ∀ j, (∀ i, i < j → G i ≠ b) → dC cnt G j b = cnt b
  | 0, _ => rfl
  | j + 1, h => by
    unfold dC
    rw [updN_ne _ _ (fun e => h j (by omega) e.symm)]
    exact dC_off cnt G j (fun i hi => h i (by omega))
theorem dC_on (cnt : Nat → Nat) (G : Nat → Nat) {n : Nat} (hinj : ∀ i j, i < j → j < n → G i ≠ G j) {i : Nat} : ∀ j, i < j → j ≤ n → dC cnt G j (G i) = cnt (G i) - 1
  | 0, h, _ => by omega
  | j + 1, h, hj => by
    unfold dC
    by_cases e : i = j
    · subst e
      rw [updN_at, dC_off cnt G i (fun i' hi' => hinj i' i hi' (by omega))]
    · rw [updN_ne _ _ (hinj i j (by omega) (by omega))]
      exact dC_on cnt G hinj j (by omega) (by omega)
theorem addC_off (cnt : Nat → Nat) (G : Nat → Nat) (k : Nat) {b : Nat} : ∀ j, (∀ i, i < j → G (k + i) ≠ b) → addC cnt G k j b = cnt b
  | 0, _ => rfl
  | j + 1, h => by
    unfold addC
    rw [updN_ne _ _ (fun e => h j (by omega) e.symm)]
    exact addC_off cnt G k j (fun i hi => h i (by omega))
theorem addC_on (cnt : Nat → Nat) (G : Nat → Nat) (k : Nat) {n : Nat} (hinj : ∀ i j, i < j → j < n → G i ≠ G j) {i : Nat} : ∀ j, i < j → k + j ≤ n → addC cnt G k j (G (k + i)) = cnt (G (k + i)) + 1
  | 0, h, _ => by omega
  | j + 1, h, hj => by
    unfold addC
    by_cases e : i = j
    · subst e
      rw [updN_at, addC_off cnt G k i (fun i' hi' => hinj _ _ (by omega) (by omega))]
    · rw [updN_ne _ _ (hinj _ _ (by omega) (by omega))]
      exact addC_on cnt G k hinj j (by omega) (by omega)
/-- the counts behind a text that was kept, and whose blocks their owner dropped -/
theorem Ct.kept {B : Nat} {cnt cnt' : Nat → Nat} {L : List Nd} (h : Ct B cnt L) {G : Nat → Nat} {n k : Nat} (ht : Tkn B cnt cnt' G n) (hk : k ≤ n) {P : List (List Int)} {L' news : List Nd} (he : Ext L P G k (n - k) L' news) : Ct B (dC (addC cnt' G k (n - k)) G n) L' := fun b hb => by
  by_cases hex : ∃ i, i < n ∧ G i = b
  · obtain ⟨i, hi, rfl⟩ := hex
    rw [dC_on _ _ ht.inj n hi (Nat.le_refl _)]
    by_cases hik : i < k
    · rw [addC_off _ _ _ _ (fun i' hi' e => ht.inj i (k + i') (by omega) (by omega) e.symm), ht.now i hi]
      refine .inr ⟨rfl, fun x hx e => ?_⟩
      rcases he.mem hx with hx | ⟨i', hi', _, e2⟩
      · rcases h (G i) hb with ⟨h1, _⟩ | ⟨_, h2⟩
        · have := ht.was i hi; omega
        · exact h2 x hx e
      · rw [e2] at e
        exact ht.inj i (k + i') (by omega) (by omega) e.symm
    · obtain ⟨i', rfl⟩ : ∃ i', i = k + i' := ⟨i - k, by omega⟩
      rw [addC_on _ _ _ ht.inj _ (show i' < n - k by omega) (by omega), ht.now _ hi]
      obtain ⟨y, hy, _, e2, _⟩ := he.at_ i' (by omega)
      exact .inl ⟨rfl, y, by rw [he.eq]; exact List.mem_append.2 (.inr (List.mem_of_getElem? hy)), e2⟩
  · have hne : ∀ i, i < n → G i ≠ b := fun i hi e => hex ⟨i, hi, e⟩
    rw [dC_off _ _ _ hne, addC_off _ _ _ _ (fun i hi => hne _ (by omega)), ht.oth b hne]
    rcases h b hb with ⟨h1, x, hx, e⟩ | ⟨h1, h2⟩
    · exact .inl ⟨h1, x, by rw [he.eq]; exact List.mem_append.2 (.inl hx), e⟩
    · refine .inr ⟨h1, fun x hx e => ?_⟩
      rcases he.mem hx with hx | ⟨i, hi, _, e2⟩
      · exact h2 x hx e
      · exact hne (k + i) (by omega) (by rw [← e2, e])
/-- the law's lists: those that were kept, and their blocks; F: what is not theirs -/
structure Ls (w0 : Nat) (w : World) (F : Nat → Prop) (vK vF : Value) (r S : Nat) (Kv Bv : Nat → Value) (Ln : Nat → Nat) (G : Nat → Nat → Nat) : Prop where
  kown : Own w w0 22 1 vK r Kv
  fown : Own w w0 22 1 vF r Bv
  bown : ∀ i, i < r → Own w w0 3 1 (Bv i) (Ln i / S) (fun j => .int .i64 (G i j : Int))
  kfree : ∀ z, vK.ownBlock = some z → ¬ F z
  ffree : ∀ z, vF.ownBlock = some z → ¬ F z
  bfree : ∀ i, i < r → ∀ z, (Bv i).ownBlock = some z → ¬ F z
  kf : Off vK vF
  kb : ∀ i, i < r → Off vK (Bv i)
  fb : ∀ i, i < r → Off vF (Bv i)
theorem Ls.chg {w0 : Nat} {w w' : World} {F F' X : Nat → Prop} {vK vF : Value} {r S : Nat} {Kv Bv : Nat → Value} {Ln : Nat → Nat} {G : Nat → Nat → Nat} (h : Ls w0 w F vK vF r S Kv Bv Ln G) (c : Chg w w' X) (hX : ∀ z, X z → F z) (hF : ∀ z, F' z → F z ∨ w.heap.size ≤ z) : Ls w0 w' F' vK vF r S Kv Bv Ln G := by
  have key : ∀ {e : TypeId} {v : Value} {n : Nat} {cs : Nat → Value}, Own w w0 e 1 v n cs → (∀ z, v.ownBlock = some z → ¬ F z) → ∀ z, v.ownBlock = some z → ¬ F' z := fun ho hf z hz e => by
    rcases hF z e with e | e
    · exact hf z hz e
    · have := (ho.lt z hz).2; omega
  exact ⟨h.kown.chg c (fun z hz e => h.kfree z hz (hX z e)), h.fown.chg c (fun z hz e => h.ffree z hz (hX z e)), fun i hi => (h.bown i hi).chg c (fun z hz e => h.bfree i hi z hz (hX z e)), key h.kown h.kfree, key h.fown h.ffree, fun i hi => key (h.bown i hi) (h.bfree i hi), h.kf, h.kb, h.fb⟩
theorem Ls.fresh {w0 : Nat} {w w' : World} {F : Nat → Prop} {vK vF : Value} {r S : Nat} {Kv Bv : Nat → Value} {Ln : Nat → Nat} {G : Nat → Nat → Nat} (h : Ls w0 w F vK vF r S Kv Bv Ln G) (f : Below w.heap.size w w') : Ls w0 w' F vK vF r S Kv Bv Ln G :=
  h.chg (Chg.of_below (fun _ => False) f) (fun _ e => e.elim) (fun _ e => .inl e)
theorem Ls.congr {w0 : Nat} {w : World} {F : Nat → Prop} {vK vF : Value} {r S : Nat} {Kv Bv Kv' Bv' : Nat → Value} {Ln Ln' : Nat → Nat} {G G' : Nat → Nat → Nat} (h : Ls w0 w F vK vF r S Kv Bv Ln G) (e1 : ∀ i, i < r → Kv i = Kv' i) (e2 : ∀ i, i < r → Bv i = Bv' i) (e3 : ∀ i, i < r → Ln i = Ln' i) (e4 : ∀ i, i < r → G i = G' i) : Ls w0 w F vK vF r S Kv' Bv' Ln' G' :=
  ⟨h.kown.congr (fun j hj => e1 j (by omega)), h.fown.congr (fun j hj => e2 j (by omega)), fun i hi => by rw [← e2 i hi, ← e3 i hi, ← e4 i hi]; exact h.bown i hi, h.kfree, h.ffree, fun i hi => by rw [← e2 i hi]; exact h.bfree i hi, h.kf, fun i hi => by rw [← e2 i hi]; exact h.kb i hi, fun i hi => by rw [← e2 i hi]; exact h.fb i hi⟩
/-- both lists have grown by one -/
theorem Ls.grow {w0 : Nat} {w w1 w2 w3 w4 : World} {F : Nat → Prop} {vK vF vK' vF' : Value} {r S : Nat} {Kv Bv : Nat → Value} {Ln : Nat → Nat} {G : Nat → Nat → Nat} (h : Ls w0 w F vK vF r S Kv Bv Ln G) (hF : ∀ z, F z → z < w.heap.size)
    (hb : Own w w0 3 1 (Bv r) (Ln r / S) (fun j => .int .i64 (G r j : Int))) (hbf : ∀ z, (Bv r).ownBlock = some z → ¬ F z) (hbk : Off vK (Bv r)) (hbF : Off vF (Bv r))
    (f1 : Below w.heap.size w w1) (a1 : App w1 w2 vK vK') (k2 : Own w2 w0 22 1 vK' (r + 1) Kv) (f2 : Below w2.heap.size w2 w3) (a2 : App w3 w4 vF vF') (k4 : Own w4 w0 22 1 vF' (r + 1) Bv) : Ls w0 w4 F vK' vF' (r + 1) S Kv Bv Ln G := by
  have h1 := h.fresh f1
  have hb1 := hb.kept f1
  have s1 := f1.size
  have s2 := a1.grown.size
  have s3 := f2.size
  have offK' : ∀ {e : TypeId} {v : Value} {n : Nat} {cs : Nat → Value}, Own w1 w0 e 1 v n cs → Off vK v → Off vK' v := fun ho hk => a1.off ho hk
  have f2' : Own w2 w0 22 1 vF r Bv := a1.own h1.fown h.kf
  have b2 : ∀ i, i < r + 1 → Own w2 w0 3 1 (Bv i) (Ln i / S) (fun j => .int .i64 (G i j : Int)) ∧ Off vK' (Bv i) ∧ Off vF (Bv i) ∧ ∀ z, (Bv i).ownBlock = some z → ¬ F z := fun i hi => by
    by_cases e : i = r
    · subst e; exact ⟨a1.own hb1 hbk, offK' hb1 hbk, hbF, hbf⟩
    · exact ⟨a1.own (h1.bown i (by omega)) (h.kb i (by omega)), offK' (h1.bown i (by omega)) (h.kb i (by omega)), h.fb i (by omega), h.bfree i (by omega)⟩
  have kf2 : Off vK' vF := offK' h1.fown h.kf
  have k3 := k2.kept f2
  have f3 := f2'.kept f2
  have b3 : ∀ i, i < r + 1 → Own w3 w0 3 1 (Bv i) (Ln i / S) (fun j => .int .i64 (G i j : Int)) := fun i hi => (b2 i hi).1.kept f2
  refine ⟨a2.own k3 kf2.symm, k4, fun i hi => a2.own (b3 i hi) (b2 i hi).2.2.1, fun z hz e => ?_, fun z hz e => ?_, fun i hi => (b2 i hi).2.2.2, (a2.off k3 kf2.symm).symm, fun i hi => (b2 i hi).2.1, fun i hi => a2.off (b3 i hi) (b2 i hi).2.2.1⟩
  · rcases a1.blk z hz with q | q
    · exact h.kfree z q e
    · have := hF z e; omega
  · rcases a2.blk z hz with q | q
    · exact h.ffree z q e
    · have := hF z e; omega
theorem Kp.congr {L : List Nd} {S : Nat} {T T' : Nat → Nat → Int} {Ln Ln' : Nat → Nat} {G G' : Nat → Nat → Nat} {r : Nat} (h : Kp L S T Ln G r) (e1 : ∀ i, i < r → T i = T' i) (e2 : ∀ i, i < r → Ln i = Ln' i) (e3 : ∀ i, i < r → G i = G' i) : Kp L S T' Ln' G' r := by
  refine ⟨fun x hx => ?_, fun i hi p h1 h2 => ?_⟩
  · obtain ⟨i, hi, h1, h2, h3, h4⟩ := h.fwd x hx
    refine ⟨i, hi, by rw [← e2 i hi]; exact h1, by rw [← e1 i hi]; exact h2, by rw [← e3 i hi]; exact h3, fun i' hi' q => ?_⟩
    rw [← e1 i' (by omega), ← e2 i' (by omega)] at q
    exact h4 i' hi' q
  · rw [← e1 i hi]
    rw [← e2 i hi] at h2
    exact h.bwd i hi p h1 h2
end Go.Proofs.Ytaalinlggjimcaa
