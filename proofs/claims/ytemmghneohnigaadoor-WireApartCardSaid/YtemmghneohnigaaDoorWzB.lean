import Derived.Test.YtemmghneohnigaaDoorWyA
namespace Go.Proofs.YtemmghneohnigaaDoor
open Go.RowKit
/-! Lines as data; what the calls make of them. -/
structure LnD where
  wl : List Int
  n : Int
  t : List Int
  nums : List Int
  u : Nat
  g : List Int
  st : List (List Int)
structure LnX where
  ao : Option Addr
  ac : Nat
  bo : Option Addr
  bc : Nat
  co : Option Addr
  cc : Nat
def LnD.row (d : LnD) (x : LnX) : Array Value := lnA (strOfNums d.wl) d.n x.ao d.t.length x.ac x.bo d.nums.length x.bc (d.u : Int) (strOfNums d.g) x.co d.st.length x.cc
structure LnD.Ok (d : LnD) : Prop where
  bw : Byt d.wl
  bt : Byt d.t
  nr : ∀ y ∈ d.nums, -9223372036854775808 ≤ y ∧ y ≤ 9223372036854775807
  us : d.u < 18446744073709551616
  bg : Byt d.g
  bs : ∀ s ∈ d.st, Byt s ∧ s.length ≤ 140737488351232
  ls : d.st.length ≤ 8796093021952
  lt : d.t.length ≤ 140737488351232
  ln : d.nums.length ≤ 17592186043904
  lg : d.g.length ≤ 140737488351232
def LnD.Txt (d : LnD) (x : List Int) : Prop := LineP d.wl d.n d.nums d.u d.g d.t d.st x
structure LnR (w : World) (d : LnD) (x : LnX) : Prop where
  t : RdA w x.ao 1 d.t.length x.ac (byc d.t)
  n : RdA w x.bo 1 d.nums.length x.bc (fun j => .int .i64 (d.nums.getD j 0))
  s : RdA w x.co 1 d.st.length x.cc (stc d.st)
theorem LnR.fresh {w w' : World} {d : LnD} {x : LnX} (h : LnR w d x) (f : Below w.heap.size w w') : LnR w' d x := ⟨h.t.fresh f, h.n.fresh f, h.s.fresh f⟩
/-- a line whose lists have marks behind them -/
structure LnO (w : World) (d : LnD) (x : LnX) : Prop where
  t : Own w 0 5 1 (.slice x.ao (d.t.length + 64) x.ac) (d.t.length + 64) (mkB d.t)
  n : Own w 0 3 1 (.slice x.bo (d.nums.length + 64) x.bc) (d.nums.length + 64) (mkI d.nums)
  s : Own w 0 9 1 (.slice x.co (d.st.length + 64) x.cc) (d.st.length + 64) (mkS d.st)
theorem own_blkY {w : World} {base : Nat} {e : TypeId} {sz : Nat} {u : Option Addr} {n c : Nat} {cs : Nat → Value} (h : Own w base e sz (.slice u n c) n cs) (hn : 0 < n) : ∃ g, u = some ⟨g, 0, none⟩ ∧ base ≤ g ∧ g < w.heap.size := by
  rcases h.2 with ⟨e, h0⟩ | ⟨g, cap, cur, e, hb, hg, _⟩
  · exact absurd h0 (by omega)
  · cases e
    exact ⟨g, rfl, hb, (Array.getElem?_eq_some_iff.1 hg).1⟩
theorem LnO.rd {w : World} {d : LnD} {x : LnX} (h : LnO w d x) : LnR w d x := by
  obtain ⟨ht, hn, hs⟩ := h
  obtain ⟨ao, ac, bo, bc, co, cc⟩ := x
  obtain ⟨g1, q1, _⟩ := own_blkY ht (by omega)
  obtain ⟨g2, q2, _⟩ := own_blkY hn (by omega)
  obtain ⟨g3, q3, _⟩ := own_blkY hs (by omega)
  simp only at q1 q2 q3
  subst q1 q2 q3
  exact ⟨given_rd ht (fun j hj => mkBt d.t hj), given_rd hn (fun j hj => mkI_lt hj), given_rd hs (fun j hj => mkS_lt hj)⟩
theorem apart_tyY {w : World} {b b' : Nat} {e e' : TypeId} {s s' n n' : Nat} {v v' : Value} {cs cs' : Nat → Value} (h : Own w b e s v n cs) (h' : Own w b' e' s' v' n' cs') (hne : e ≠ e') : Off v v' := fun k hk hk' => by
  rcases h.2 with ⟨rfl, rfl⟩ | ⟨g, cap, cur, rfl, _, hg, _⟩
  · simp [Value.ownBlock] at hk
  · rcases h'.2 with ⟨rfl, rfl⟩ | ⟨g', cap', cur', rfl, _, hg', _⟩
    · simp [Value.ownBlock] at hk'
    · simp only [Value.ownBlock, Option.some.injEq] at hk hk'
      subst hk hk'
      rw [hg] at hg'
      injection hg' with q
      injection q with _ q2
      exact hne q2
theorem LnO.fresh {w w' : World} {d : LnD} {x : LnX} (h : LnO w d x) (f : Below w.heap.size w w') : LnO w' d x := ⟨h.t.kept f, h.n.kept f, h.s.kept f⟩
/-- a list of lines that grows leaves their lists alone -/
theorem LnO.app {w w' : World} {d : LnD} {x : LnX} (h : LnO w d x) {v v' : Value} {base n : Nat} {cs : Nat → Value} (ho : Own w base 38 7 v n cs) (ha : App w w' v v') : LnO w' d x :=
  ⟨ha.own h.t (apart_tyY ho h.t (by decide)), ha.own h.n (apart_tyY ho h.n (by decide)), ha.own h.s (apart_tyY ho h.s (by decide))⟩
theorem given_r {w : World} {d : LnD} {x : LnX} (h : LnR w d x) (k : d.Ok) : Calls Tryd.prog 15 #[.agg (d.row x)] w fun e w' => ∃ y, e = .returned (.agg (d.row y)) ∧ LnO w' d y ∧ Below w.heap.size w w' := by
  refine (given_any h.t h.n h.s (by have := k.lt; omega) (by have := k.ln; omega) (by have := k.ls; omega)).mono ?_
  rintro e w' ⟨g1, c1, g2, c2, g3, c3, rfl, o1, o2, o3, f⟩
  exact ⟨⟨some ⟨g1, 0, none⟩, c1, some ⟨g2, 0, none⟩, c2, some ⟨g3, 0, none⟩, c3⟩, rfl, ⟨o1.weaken (Nat.zero_le _), o2.weaken (Nat.zero_le _), o3.weaken (Nat.zero_le _)⟩, f⟩
theorem print_r {w : World} {d : LnD} {x : LnX} (h : LnR w d x) (k : d.Ok) (hE : Env w) : Calls Tryd.prog 14 #[.agg (d.row x)] w fun e w' => ((∃ s, d.Txt s ∧ e = .returned (.tuple #[.string (strOfNums s), .int .i64 0])) ∨ e = .returned (.tuple #[.string ⟨#[]⟩, .int .i64 220])) ∧ Below w.heap.size w w' := by
  refine (print_any k.bw k.bg (by have := k.lg; omega) k.bt (by have := k.lt; omega) (fun s hs => ⟨(k.bs s hs).1, by have := (k.bs s hs).2; omega⟩) (by have := k.ls; omega) k.us k.nr hE h.t h.n h.s).mono ?_
  rintro e w' ⟨⟨s, hs, rfl⟩ | ⟨_, rfl⟩, f⟩
  · exact ⟨.inl ⟨s, hs, rfl⟩, f⟩
  · exact ⟨.inr rfl, f⟩
theorem txt_asc {d : LnD} (k : d.Ok) {x : List Int} (hx : d.Txt x) : Asc x ∧ x.length ≤ 8192 := by
  obtain ⟨_, _, hq⟩ := LineP.toQ hx k.nr k.us k.bg k.bt (fun s hs => (k.bs s hs).1)
  exact ⟨hq.asc.1, hq.asc.2.2⟩
theorem parse_r {w : World} {d : LnD} (k : d.Ok) {x : List Int} (hx : d.Txt x) (hE : Env w) : Calls Tryd.prog 16 #[.string (strOfNums x)] w fun e w' => ∃ y, e = .returned (.tuple #[.agg (d.row y), .int .i64 0]) ∧ LnR w' d y ∧ Below w.heap.size w w' := by
  obtain ⟨k', ek, hq⟩ := LineP.toQ hx k.nr k.us k.bg k.bt (fun s hs => (k.bs s hs).1)
  obtain ⟨hxa, _, hx8⟩ := hq.asc
  refine (parse_all hxa.byt (by omega) hE).mono ?_
  rintro e w' ⟨⟨k2, n', nums', u', g', t', st', ao', ac', bo', bc', co', cc', q', uq, rfl, o1, o2, o3⟩ | ⟨no, _⟩, hf⟩
  · obtain ⟨rfl, rfl, rfl, rfl, rfl, rfl, rfl⟩ := uq _ _ _ _ _ _ _ hq
    refine ⟨⟨ao', ac', bo', bc', co', cc'⟩, ?_, ⟨o1.rdaW, o2.rdaW, o3.rdaW⟩, hf⟩
    unfold LnD.row
    rw [ek]
  · exact absurd ⟨_, _, _, _, _, _, _, hq⟩ no
theorem plainly_r {w : World} {d : LnD} {x : LnX} (h : LnR w d x) (k : d.Ok) : Calls Tryd.prog 18 #[.agg (d.row x)] w fun e w' => ∃ y, e = .returned (.agg (d.row y)) ∧ LnR w' d y ∧ Below w.heap.size w w' := by
  refine (plainly_any h.t h.n (by have := k.lt; omega) (by have := k.ln; omega)).mono ?_
  rintro e w' ⟨a1, c1, a2, c2, rfl, r1, r2, f⟩
  exact ⟨⟨a1, c1, a2, c2, x.co, x.cc⟩, rfl, ⟨r1, r2, h.s.fresh f⟩, f⟩
theorem eq_r {w : World} {d : LnD} {x y : LnX} (h : LnR w d x) (k : LnR w d y) : Calls Tryd.prog 17 #[.agg (d.row x), .agg (d.row y)] w fun e w' => e = .returned (.bool true) ∧ Below w.heap.size w w' :=
  eqLines_same (f := fun i => d.t.getD i 0) (h := fun i => d.nums.getD i 0) (s := fun i => strOfNums (d.st.getD i [])) h.t k.t h.n k.n h.s k.s
/-- one line that was sent: its lists, its text -/
structure SE where
  d : LnD
  y : LnX
  x : List Int
structure SE.Good (e : SE) : Prop where
  ok : e.d.Ok
  tx : e.d.Txt e.x
def strm : List SE → List Int
  | [] => []
  | e :: r => e.x ++ 10 :: strm r
theorem strm_app : ∀ (a b : List SE), strm (a ++ b) = strm a ++ strm b
  | [], b => rfl
  | e :: r, b => by simp [strm, strm_app r b]
theorem strm_byt : ∀ (a : List SE), (∀ e ∈ a, e.Good) → Byt (strm a)
  | [], _ => byt_nil
  | e :: r, h => Byt.app (txt_asc (h e (by simp)).ok (h e (by simp)).tx).1.byt (byt_cons (by omega) (strm_byt r (fun z hz => h z (by simp [hz]))))
theorem strm_len : ∀ (a : List SE), (∀ e ∈ a, e.Good) → (strm a).length ≤ a.length * 8193
  | [], _ => by simp [strm]
  | e :: r, h => by
    have h1 := (txt_asc (h e (by simp)).ok (h e (by simp)).tx).2
    have h2 := strm_len r (fun z hz => h z (by simp [hz]))
    simp only [strm, List.length_append, List.length_cons]
    omega
def rowsF (E : List SE) (j : Nat) : Value := match E[j / 7]? with
  | some e => (e.d.row e.y).getD (j % 7) undef
  | none => undef
theorem rowsF_app {E : List SE} {e : SE} {j : Nat} (h : j < E.length * 7) : rowsF E j = rowsF (E ++ [e]) j := by
  unfold rowsF
  rw [List.getElem?_append_left (by omega)]
theorem rowsF_new {E : List SE} {e : SE} {j : Nat} (h : j < 7) : rowsF (E ++ [e]) (E.length * 7 + j) = (e.d.row e.y).getD j undef := by
  unfold rowsF
  rw [show (E.length * 7 + j) / 7 = E.length by omega, show (E.length * 7 + j) % 7 = j by omega]
  simp
theorem rowsF_at {E : List SE} {m : Nat} {e : SE} (h : E[m]? = some e) {j : Nat} (hj : j < 7) : rowsF E (m * 7 + j) = (e.d.row e.y).getD j undef := by
  unfold rowsF
  rw [show (m * 7 + j) / 7 = m by omega, show (m * 7 + j) % 7 = j by omega, h]
end Go.Proofs.YtemmghneohnigaaDoor
