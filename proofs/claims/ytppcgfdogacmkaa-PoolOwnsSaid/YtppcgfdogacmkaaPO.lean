import Derived.Test.YtppcgfdogacmkaaPN
namespace Go.Proofs.Ytppcgfdogacmkaa
open Go.RowKit
/-! The ledger in memory. -/
structure Lg (x : Fx) (w : World) (s : Dy) (gl : Nat) (vF : Value) (nf : Nat) (fr : Nat → Nat) : Prop where
  st : St x w s
  row : w.rowIs gl 60 3 (three (.pointer (some ⟨x.g, 0, none⟩)) (.slice (some ⟨x.lb, 0, none⟩) 3 x.lc) vF)
  own : Own w x.base 3 1 vF nf (fun j => .int .i64 (fr j))
  off : ∀ i, i < 3 → Off vF (s.v i)
  glb : x.base ≤ gl
  tn : x.tn = 3
  lk : Lk x.B s.cnt s.m s.bl nf fr
theorem Lg.fresh {x : Fx} {w w' : World} {s : Dy} {gl : Nat} {vF : Value} {nf : Nat} {fr : Nat → Nat} (h : Lg x w s gl vF nf fr) (f : Below w.heap.size w w') : Lg x w' s gl vF nf fr :=
  ⟨h.st.fresh f, h.row.of_block (f.block _ h.row.lt), h.own.kept f, h.off, h.glb, h.tn, h.lk⟩
theorem Lg.step {x : Fx} {w w' : World} {s : Dy} {gl : Nat} {vF : Value} {nf : Nat} {fr : Nat → Nat} (h : Lg x w s gl vF nf fr) {i : Nat} (hi : i < 3) {cnt : Nat → Nat} {num : Nat → Int} {v : Value} {m : Nat} {bl : Nat → Nat} (hP : PoolAt w' x.g x.cb x.nb 2 3 x.B x.S cnt num) (hT : TblAt w' x.base (x.tb i) x.g x.S v m bl) (c : Chg w w' (fun b => b = x.tb i ∨ b = x.cb ∨ b = x.nb ∨ (s.v i).ownBlock = some b)) (hv : ∀ k, v.ownBlock = some k → (s.v i).ownBlock = some k ∨ w.heap.size ≤ k)
    (h1 : ∀ j, j < m → bl j < x.B) (h2 : ∀ j k, j < k → k < m → bl j ≠ bl k) (h3 : ∀ b, b < x.B → cnt b + tms (s.bl i) b (s.m i) = s.cnt b + tms bl b m) : Lg x w' ⟨cnt, num, updA s.v i v, updN s.m i m, updA s.bl i bl⟩ gl vF nf fr := by
  have htn : i < x.tn := by rw [h.tn]; exact hi
  have ht := h.st.T i htn
  refine ⟨h.st.step htn hP hT c hv, c.row h.row ?_, Own.chg c h.own ?_, fun j hj => ?_, h.glb, h.tn, h.lk.step hi h1 h2 h3⟩
  · have k1 := rowIs_apart h.row h.st.P.cnts (by decide)
    have k2 := rowIs_apart h.row h.st.P.nums (by decide)
    have k3 := rowIs_apart h.row ht.row (by decide)
    have k4 := ht.own.apart h.row (by decide)
    rintro (e | e | e | e)
    · exact k3 e
    · exact k1 e
    · exact k2 e
    · exact k4 e
  · rintro b hb (e | e | e | e)
    · exact h.own.apart ht.row (by decide) (e ▸ hb)
    · have := (h.own.lt b hb).1
      have := h.st.lt.2.1
      omega
    · have := (h.own.lt b hb).1
      have := h.st.lt.2.2.1
      omega
    · exact h.off i hi b hb e
  · show Off vF (updA s.v i v j)
    by_cases e : j = i
    · subst e
      rw [updA_at]
      intro b hb hb2
      rcases hv b hb2 with k | k
      · exact h.off j hj b hb k
      · have := (h.own.lt b hb).2
        omega
    · rw [updA_ne _ _ e]
      exact h.off j hj
theorem Lg.poolStep {x : Fx} {w w' : World} {s : Dy} {gl : Nat} {vF : Value} {nf : Nat} {fr : Nat → Nat} (h : Lg x w s gl vF nf fr) {cnt : Nat → Nat} {num : Nat → Int} (hP : PoolAt w' x.g x.cb x.nb 2 3 x.B x.S cnt num) (c : Chg w w' (fun b => b = x.cb ∨ b = x.nb)) : St x w' { s with cnt := cnt, num := num } ∧ w'.rowIs gl 60 3 (three (.pointer (some ⟨x.g, 0, none⟩)) (.slice (some ⟨x.lb, 0, none⟩) 3 x.lc) vF) ∧ Own w' x.base 3 1 vF nf (fun j => .int .i64 (fr j)) := by
  refine ⟨h.st.pool hP c, c.row h.row ?_, Own.chg c h.own ?_⟩
  · have k1 := rowIs_apart h.row h.st.P.cnts (by decide)
    have k2 := rowIs_apart h.row h.st.P.nums (by decide)
    rintro (e | e)
    · exact k1 e
    · exact k2 e
  · rintro b hb (e | e)
    · have := (h.own.lt b hb).1
      have := h.st.lt.2.1
      omega
    · have := (h.own.lt b hb).1
      have := h.st.lt.2.2.1
      omega
/-! the tables' calls on the ledger -/
theorem Lg.grow_ok {x : Fx} {w : World} {s : Dy} {gl : Nat} {vF : Value} {nf : Nat} {fr : Nat → Nat} (h : Lg x w s gl vF nf fr) (hB : x.B ≤ 256) {i n : Nat} (hi : i < 3) (hn : n ≤ 9223372036854775807) (hf : needs n x.S ≤ freeN s.cnt x.B + s.m i) :
    Calls Try.prog 17 #[.pointer (some ⟨x.tb i, 0, none⟩), .int .i64 n] w fun e w' => e = .returned (.int .i64 0) ∧ ∃ s', Lg x w' s' gl vF nf fr ∧ s'.m = updN s.m i (s.m i + (needs n x.S - s.m i)) := by
  have htn : i < x.tn := by rw [h.tn]; exact hi
  have hlen := h.lk.len hi
  refine (grow_any h.st.P h.st.geo (h.st.T i htn) (by omega) (by omega) (by omega) h.st.lt.1 h.st.lt.2.1 h.st.lt.2.2.1 h.st.bs).mono ?_
  rintro e w' ⟨rfl, v, k1, k2, k3, k4⟩
  obtain ⟨K, hK⟩ : ∃ K, K = needs n x.S - s.m i := ⟨_, rfl⟩
  rw [← hK] at k1 k2 ⊢
  have hKf : K ≤ freeN s.cnt x.B := by omega
  refine ⟨rfl, _, h.step hi k2 k1 k3 k4 (fun j hj => ?_) (fun j k hj hk => ?_) (fun b hb => ?_), rfl⟩
  · by_cases e : j < s.m i
    · rw [extB_lt e]; exact h.lk.lt i hi j e
    · obtain ⟨q, rfl⟩ : ∃ q, j = s.m i + q := ⟨j - s.m i, by omega⟩
      rw [extB_at]; exact (tk_lt (by omega)).1
  · by_cases e : k < s.m i
    · rw [extB_lt e, extB_lt (by omega)]; exact h.lk.ne i hi j k hj e
    · obtain ⟨q, rfl⟩ : ∃ q, k = s.m i + q := ⟨k - s.m i, by omega⟩
      rw [extB_at]
      by_cases e2 : j < s.m i
      · rw [extB_lt e2]
        intro e3
        have a := tk_free (B := x.B) (c := s.cnt) (k := q) (by omega)
        rw [← e3] at a
        have b := h.lk.ge hi (h.lk.lt i hi j e2)
        have c := tms_pos e2 (rfl : s.bl i j = s.bl i j)
        omega
      · obtain ⟨p, rfl⟩ : ∃ p, j = s.m i + p := ⟨j - s.m i, by omega⟩
        rw [extB_at]
        exact tk_ne (by omega) (by omega)
  · rw [takesC_eq b K hKf, tms_ext]
    omega
theorem Lg.grow {x : Fx} {w : World} {s : Dy} {gl : Nat} {vF : Value} {nf : Nat} {fr : Nat → Nat} (h : Lg x w s gl vF nf fr) (hB : x.B ≤ 256) {i : Nat} (hi : i < 3) (n : Int) (hn : n ≤ 9223372036854775807) :
    Calls Try.prog 17 #[.pointer (some ⟨x.tb i, 0, none⟩), .int .i64 n] w fun e w' => ∃ k s', e = .returned (.int .i64 k) ∧ Lg x w' s' gl vF nf fr := by
  have htn : i < x.tn := by rw [h.tn]; exact hi
  have hlen := h.lk.len hi
  by_cases h0 : n < 0
  · refine (grow_neg h0).mono ?_
    rintro e w' ⟨rfl, rfl⟩
    exact ⟨_, s, rfl, h⟩
  · obtain ⟨n, rfl⟩ : ∃ k : Nat, n = k := ⟨n.toNat, by omega⟩
    by_cases hf : freeN s.cnt x.B + s.m i < needs n x.S
    · refine (grow_full h.st.P (h.st.T i htn) (by omega) (by omega) hf).mono ?_
      rintro e w' ⟨rfl, rfl⟩
      exact ⟨_, s, rfl, h⟩
    · refine (h.grow_ok hB hi (by omega) (by omega)).mono ?_
      rintro e w' ⟨rfl, s', k1, _⟩
      exact ⟨_, s', rfl, k1⟩
theorem Lg.trim {x : Fx} {w : World} {s : Dy} {gl : Nat} {vF : Value} {nf : Nat} {fr : Nat → Nat} (h : Lg x w s gl vF nf fr) (hB : x.B ≤ 256) (hnf : nf ≤ 4611686017427387904) {i : Nat} (hi : i < 3) (n : Nat) (hn : n ≤ 9223372036854775807) :
    Calls Try.prog 22 #[.pointer (some ⟨x.tb i, 0, none⟩), .int .i64 n] w fun e w' => e = .returned (.int .i64 0) ∧ ∃ s', Lg x w' s' gl vF nf fr ∧ s'.m = updN s.m i (min (s.m i) (needs n x.S)) := by
  have htn : i < x.tn := by rw [h.tn]; exact hi
  have hlen := h.lk.len hi
  refine (trim_any h.st.P (h.st.T i htn) (by omega) hn (h.lk.lt i hi) (fun b hb => by have := h.lk.small hb; omega) h.st.lt.1 h.st.lt.2.1 h.st.lt.2.2.1 (rowIs_apart (h.st.T i htn).row h.st.P.cnts (by decide))).mono ?_
  rintro e w' ⟨rfl, v, k1, k2, k3, k4⟩
  refine ⟨rfl, _, h.step hi k3 k1 (k4.imp (fun b _ e => e.elim Or.inl (fun e => Or.inr (Or.inl e)))) (fun k hk => .inl (k2 ▸ hk)) (fun j hj => h.lk.lt i hi j (by omega)) (fun j k hj hk => h.lk.ne i hi j k hj (by omega)) (fun b hb => ?_), rfl⟩
  have := drops_eq2 b (fun j hj => h.lk.lt i hi j hj) (fun b hb => h.lk.ge hi hb) hb (s.m i - needs n x.S) (by omega)
  rw [show s.m i - (s.m i - needs n x.S) = min (s.m i) (needs n x.S) by omega] at this
  exact this
end Go.Proofs.Ytppcgfdogacmkaa
