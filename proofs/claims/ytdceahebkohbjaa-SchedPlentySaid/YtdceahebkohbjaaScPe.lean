import Derived.Test.YtdceahebkohbjaaScPd
namespace Go.Proofs.Ytdceahebkohbjaa
open Go.RowKit
/-! The sums over the seats as they came; wanted. -/
def sm : List Int → Int
  | [] => 0
  | x :: l => x + sm l
theorem sm_app (l : List Int) (x : Int) : sm (l ++ [x]) = sm l + x := by
  induction l with
  | nil => simp [sm]
  | cons y l ih => simp only [List.cons_append, sm, ih]; omega
theorem sm_perm {l m : List Int} (h : l.Perm m) : sm l = sm m := by
  induction h with
  | nil => rfl
  | cons x _ ih => simp only [sm, ih]
  | swap x y l => simp only [sm]; omega
  | trans _ _ a b => rw [a, b]
def tS (F : Se → Int) (L : Nat → Se) : Nat → Int
  | 0 => 0
  | p + 1 => tS F L p + F (L p)
theorem tS_sm (F : Se → Int) (L : Nat → Se) : ∀ n, tS F L n = sm ((List.range n).map fun i => F (L i))
  | 0 => rfl
  | n + 1 => by rw [List.range_succ, List.map_append, List.map_singleton, sm_app, ← tS_sm F L n]; rfl
theorem tS_perm {F : Se → Int} (hF : ∀ s, F (er s) = F s) {n : Nat} {S L : Nat → Se} (h : PO n S L) : tS F L n = tS F S n := by
  rw [tS_sm, tS_sm]
  have := sm_perm (h.perm.map F)
  rw [List.map_map, List.map_map] at this
  have e : ∀ M : Nat → Se, (List.range n).map (F ∘ fun i => er (M i)) = (List.range n).map fun i => F (M i) := fun M => List.map_congr_left (fun i _ => hF (M i))
  rw [e, e] at this
  exact this
def fW (c : Me) (pk : Int → Bool) (s : Se) : Int := if pk s.id = true then wan c s else 0
def fG (c : Me) (pk : Int → Bool) (s : Se) : Int := if pk s.id = true then bey c s (wan c s) else 0
def fN (pk : Int → Bool) (s : Se) : Int := if pk s.id = true then 1 else 0
theorem wS_tS (c : Me) (L : Nat → Se) (pk : Int → Bool) : ∀ p, wS c L pk p = tS (fW c pk) L p
  | 0 => rfl
  | p + 1 => by show wS c L pk p + _ = tS _ L p + _; rw [wS_tS c L pk p]; rfl
theorem gS_tS (c : Me) (L : Nat → Se) (pk : Int → Bool) : ∀ p, gS c L pk p = tS (fG c pk) L p
  | 0 => rfl
  | p + 1 => by show gS c L pk p + _ = tS _ L p + _; rw [gS_tS c L pk p]; rfl
theorem hS_tS (L : Nat → Se) : ∀ p, hS L p = tS (fun s => (s.hn : Int)) L p
  | 0 => rfl
  | p + 1 => by show hS L p + _ = tS _ L p + _; rw [hS_tS L p]
theorem zS_len (c : Me) (L : Nat → Se) (pk : Int → Bool) : ∀ p, ((zS c L pk p).length : Int) = tS (fN pk) L p
  | 0 => rfl
  | p + 1 => by
    have ih := zS_len c L pk p
    show ((if _ then _ else _ : List (Nat × Int)).length : Int) = tS _ L p + (if _ then _ else _)
    split
    · rw [List.length_append, List.length_singleton]; omega
    · omega
theorem zS_mem {c : Me} {L : Nat → Se} {pk : Int → Bool} : ∀ {p : Nat} {z : Nat × Int}, z ∈ zS c L pk p → z.2 = wan c (L z.1)
  | 0, z, h => by cases h
  | p + 1, z, h => by
    have e : zS c L pk (p + 1) = if pk (L p).id = true then zS c L pk p ++ [(p, wan c (L p))] else zS c L pk p := rfl
    rw [e] at h
    split at h
    · rcases List.mem_append.1 h with h | h
      · exact zS_mem h
      · rw [List.mem_singleton.1 h]
    · exact zS_mem h
structure PnF (c : Me) (n : Nat) (S : Nat → Se) (pk : Int → Bool) (mO mZ : Nat) (zI zT zG : Nat → Int) : Prop where
  mz : mZ ≤ 16
  all : tS (fW c pk) S n ≤ c.bu → tS (fun s => (s.hn : Int)) S n + tS (fG c pk) S n ≤ c.bs → mO = 0 ∧ (mZ : Int) = tS (fN pk) S n ∧ ∀ k, k < mZ → ∃ q, q < n ∧ zI k = (S q).id ∧ 0 ≤ zT k ∧ zT k ≤ 1024 ∧ 0 ≤ zG k ∧ zG k ≤ 1024 ∧ zT k + zG k = wan c (S q)
theorem PlD.plenty {w' : World} {base : Nat} {c : Me} {n : Nat} {S : Nat → Se} {pk : Int → Bool} {vO vZ : Value} (h : PlD w' base c n S pk vO vZ) (hc : okM c 1) (hn : n ≤ 16) :
    ∃ (mO mZ : Nat) (oI zI zT zG : Nat → Int), Own w' base 3 1 vO mO (fun j => .int .i64 (oI j)) ∧ Own w' base 38 3 vZ mZ (trF zI zT zG) ∧ PnF c n S pk mO mZ zI zT zG := by
  obtain ⟨L, hp, hd, h1, h2⟩ := h
  have I := mkN_inv (pk := pk) hc hd.1 hn n (Nat.le_refl _)
  refine ⟨(mkN c L n pk n).O.length, (mkN c L n pk n).Z.length, fun k => (L ((mkN c L n pk n).O.getD k 0)).id, fun k => (slc L ((mkN c L n pk n).Z.getD k (0, 0))).1, fun k => (slc L ((mkN c L n pk n).Z.getD k (0, 0))).2.1, fun k => (slc L ((mkN c L n pk n).Z.getD k (0, 0))).2.2, h1, h2, ⟨by have := I.zlen; omega, fun q1 q2 => ?_⟩⟩
  rw [← tS_perm (F := fW c pk) (fun s => rfl) hp, ← wS_tS] at q1
  rw [← tS_perm (F := fun s => (s.hn : Int)) (fun s => rfl) hp, ← hS_tS, ← tS_perm (F := fG c pk) (fun s => rfl) hp, ← gS_tS] at q2
  obtain ⟨_, _, _, e4, e5⟩ := Go.Proofs.Ytdceahebkohbjaa.plenty hc hd.1 q1 q2 n (Nat.le_refl _)
  refine ⟨by rw [e4]; rfl, by rw [e5, zS_len]; exact tS_perm (fun s => rfl) hp, fun k hk => ?_⟩
  have hz : (mkN c L n pk n).Z.getD k (0, 0) ∈ (mkN c L n pk n).Z := by rw [getD_at _ _ hk]; exact List.getElem_mem hk
  obtain ⟨z1, z2, z3, z4, z5, z6⟩ := I.zs _ hz
  have z7 : ((mkN c L n pk n).Z.getD k (0, 0)).2 = wan c (L ((mkN c L n pk n).Z.getD k (0, 0)).1) := zS_mem (p := n) (pk := pk) (by rw [← e5]; exact hz)
  show ∃ q, q < n ∧ (slc L ((mkN c L n pk n).Z.getD k (0, 0))).1 = _ ∧ 0 ≤ (slc L ((mkN c L n pk n).Z.getD k (0, 0))).2.1 ∧ (slc L ((mkN c L n pk n).Z.getD k (0, 0))).2.1 ≤ 1024 ∧ 0 ≤ (slc L ((mkN c L n pk n).Z.getD k (0, 0))).2.2 ∧ (slc L ((mkN c L n pk n).Z.getD k (0, 0))).2.2 ≤ 1024 ∧ (slc L ((mkN c L n pk n).Z.getD k (0, 0))).2.1 + (slc L ((mkN c L n pk n).Z.getD k (0, 0))).2.2 = _
  generalize (mkN c L n pk n).Z.getD k (0, 0) = z at *
  obtain ⟨q, hq, he⟩ := hp.of_mem z2
  have hwn : wan c (L z.1) ≤ 1024 := by
    have := hc.2.2.2.2.2.2.2.2.1
    have := hc.2.2.2.2.2.2.2.2.2.1
    have := hc.2.2.2.2.2.2.2.2.2.2.2
    unfold wan
    split <;> omega
  have hs := slc_sum L z
  have hsg : 0 ≤ (slc L z).2.1 ∧ 0 ≤ (slc L z).2.2 := by
    unfold slc
    split
    · exact ⟨by show 0 ≤ z.2; omega, Int.le_refl _⟩
    · exact ⟨Int.le_refl _, by show 0 ≤ z.2; omega⟩
  have ewn : wan c (L z.1) = wan c (S q) := by
    have : wan c (er (L z.1)) = wan c (er (S q)) := by rw [he]
    exact this
  exact ⟨q, hq, by rw [slc_id]; exact er_id he, hsg.1, by omega, hsg.2, by omega, by rw [hs, z7, ewn]⟩
set_option maxRecDepth 20000 in
set_option maxHeartbeats 1600000 in
theorem wanted_any (w : World) (c : Me) (s : Se) (hc : okM c 1) (hk : okS c s) : Calls Try.prog 15 #[mV c, seV s] w fun e w' => e = .returned (.int .i64 (wan c s)) ∧ Below w.heap.size w w' := by
  obtain ⟨ok1, ok2, ok3, ok4, _, _⟩ := hk
  obtain ⟨x, HX⟩ : ∃ x, Hid (x = wan c s) := ⟨_, rfl⟩
  rw [← HX.out]
  have HX2 := HX.out
  have HGR := hidd (fun z => greatest_any z s.wa 1)
  have htr := hc.2.2.2.2.2.2.2.2.2.2.1
  obtain ⟨bs, bl, bu, ch, tr⟩ := c
  obtain ⟨y0, y1, y2, y3, ho, hn0, hc0, HH⟩ := s
  unfold mV seV wan rst at *
  simp only at HX2 HGR htr ok1 ok2 ok3 ok4 ⊢
  have HF := hidd (fresh_alloc w (.cells #[.int .i64 bs, .int .i64 bl, .int .i64 bu, .int .i64 ch, .int .i64 tr] 23))
  have HF2 := hidd (fresh_alloc (w.alloc (.cells #[.int .i64 bs, .int .i64 bl, .int .i64 bu, .int .i64 ch, .int .i64 tr] 23)) (.cells #[.int .i64 y0, .int .i64 y1, .int .i64 y2, .int .i64 y3, .slice ho hn0 hc0] 35))
  obtain ⟨a0, a1, a2, a3, a4⟩ := box5v w (.int .i64 bs) (.int .i64 bl) (.int .i64 bu) (.int .i64 ch) (.int .i64 tr) 23
  obtain ⟨b0, b1, b2, b3, b4⟩ := box5v (w.alloc (.cells #[.int .i64 bs, .int .i64 bl, .int .i64 bu, .int .i64 ch, .int .i64 tr] 23)) (.int .i64 y0) (.int .i64 y1) (.int .i64 y2) (.int .i64 y3) (.slice ho hn0 hc0) 35
  rw [show (w.alloc (.cells #[.int .i64 bs, .int .i64 bl, .int .i64 bu, .int .i64 ch, .int .i64 tr] 23)).heap.size = w.heap.size + 1 by simp] at b0 b1 b2 b3 b4
  have d3 := fresh_cell HF2.out a3
  have d4 := fresh_cell HF2.out a4
  have HB := hidd (HF.out.trans (HF2.out.mono HF.out.size))
  clear a0 a1 a2 a3 a4 b0 b4 HF HF2
  have hch := hc.2.2.2.2.2.2.2.1
  simp only at hch
  go_enter Try.func15, Try.ntmps15
  go_upto_region 1 with fail
  generalize ((w.alloc (.cells #[.int .i64 bs, .int .i64 bl, .int .i64 bu, .int .i64 ch, .int .i64 tr] 23)).alloc (.cells #[.int .i64 y0, .int .i64 y1, .int .i64 y2, .int .i64 y3, .slice ho hn0 hc0] 35)) = w2 at *
  by_cases c1 : ch < y1 - 1 - y2
  · obtain rfl : x = ch := by rw [HX2, if_pos (by omega)]; omega
    clear HX2 HX
    go_wp2
    go_ret
    exact ⟨rfl, HB.out⟩
  · by_cases c2 : 0 < y1 - 1 - y2
    · obtain rfl : x = y1 - 1 - y2 := by rw [HX2, if_pos c2]; omega
      clear HX2 HX
      go_wp2
      go_ret
      exact ⟨rfl, HB.out⟩
    · rw [if_neg c2] at HX2
      generalize max y3 1 = mx at *
      by_cases c3 : tr < mx
      · obtain rfl : x = tr := by omega
        clear HX2 HX
        go_wp2_with (go_at_call 14; with_reducible refine (HGR.out _).mono ?_; rintro e w' ⟨rfl, rfl⟩)
        go_ret
        exact ⟨rfl, HB.out⟩
      · obtain rfl : x = mx := by omega
        clear HX2 HX
        go_wp2_with (go_at_call 14; with_reducible refine (HGR.out _).mono ?_; rintro e w' ⟨rfl, rfl⟩)
        go_ret
        exact ⟨rfl, HB.out⟩
end Go.Proofs.Ytdceahebkohbjaa
