import Derived.Test.YtdceahebkohbjabScRj
namespace Go.Proofs.Ytdceahebkohbjab
open Go.RowKit
/-! The reference's plan: serve says lok. -/
def SvA (w : World) (base g : Nat) (c : Me) (so : Option Addr) (n sc : Nat) (L : Nat → Se) (p : Nat) (st : Pn) (w' : World) (a1 a2 a3 : Int) (b : Bool) : Prop :=
  Chg w w' (fun x => x = g) ∧ ∃ (Q' : List Int) (oo' : Option Addr) (oc' : Nat) (gv' lf' : Int), WkA w' g c so n sc (.slice oo' Q'.length oc') gv' lf' ∧ Own w' base 3 1 (.slice oo' Q'.length oc') Q'.length (fun i => .int .i64 (lI Q' i)) ∧ StR L n Q' gv' lf' (lok c L n p st) ∧ ((b = false ∧ (lok c L n p st).Z = st.Z) ∨ (b = true ∧ ∃ am, (lok c L n p st).Z = st.Z ++ [(p, am)] ∧ slc L (p, am) = (a1, a2, a3)))
theorem serve_any {w : World} {base g : Nat} {c : Me} {so : Option Addr} {n sc : Nat} {oo : Option Addr} {oc : Nat} {Q : List Int} {gv lf : Int} {S L : Nat → Se} {p : Nat} {st : Pn} (hw : WkA w g c so n sc (.slice oo Q.length oc) gv lf) (hS : ∀ z, Chg w z (fun x => x = g) → SeA z so n sc S) (hn : n ≤ 16) (hc : okM c 1) (hg : 0 ≤ gv) (hg2 : gv ≤ 90000) (hl : 0 < lf) (hl2 : lf ≤ 1024) (hO : Own w base 3 1 (.slice oo Q.length oc) Q.length (fun i => .int .i64 (lI Q i))) (hbs : base ≤ w.heap.size) (hQn : Q.length ≤ 1000) (s : Se) (hs : okS c s) (h7 : s.hn ≤ 256) (hp : PO n S L) (hb : ∀ q, q < n → okB c (L q).hn (L q).H) (hpn : p < n) (he : er s = er (L p)) (hst : StR L n Q gv lf st) (hf : 0 ≤ fre c L n st.given st.out) :
    Calls Try.prog 31 #[.pointer (some ⟨g, 0, none⟩), seV s] w fun e w' => ∃ a1 a2 a3 b, e = .returned (.tuple #[.agg #[.int .i64 a1, .int .i64 a2, .int .i64 a3], .bool b]) ∧ Hid (SvA w base g c so n sc L p st w' a1 a2 a3 b) := by
  have hk := hc
  obtain ⟨_, _, c1, c2, c3, _⟩ := hk
  have hrd := own_rda hO
  have hkeep : ∀ w', Chg w w' (fun x => x = g) → Own w' base 3 1 (.slice oo Q.length oc) Q.length (fun i => .int .i64 (lI Q i)) := fun w' h => hO.chg h (fun x hx e => hO.apart hw (by decide) (by rw [hx, e]))
  by_cases hr : 0 < rst s
  · refine (serveA hw hS hn hc hg hg2 hl hl2 hrd hQn s hs h7 hr rfl).mono (fun e w' h => ?_)
    obtain ⟨h1, R, hR, hh⟩ := h
    rcases lok_fill hp c1 c2 c3 hb hpn he hst hf hr rfl hR with ⟨e1, e2⟩ | ⟨Q', e1, e2, e3⟩
    · subst e1
      rcases hh with ⟨_, k2, k3⟩ | ⟨_, _, _, k1, _⟩
      · exact ⟨0, 0, 0, false, k3, h1, Q, oo, oc, gv, lf, k2, hkeep w' h1, by rw [e2]; exact hst, .inl ⟨rfl, by rw [e2]⟩⟩
      · cases k1
    · subst e1
      rcases hh with ⟨k1, _⟩ | ⟨Q2, a, k, k1, _, k3, k4, k5⟩
      · cases k1
      · cases k1
        exact ⟨_, _, _, true, k5, h1, Q', a, k, _, _, k3, k4.weaken hbs, e2, .inr ⟨rfl, _, e3, by unfold slc; rw [if_pos (by rw [← rst_er he]; exact hr), er_id he]⟩⟩
  · refine (serveB hw hS hn hc hg hg2 hl hl2 hrd hQn s hs h7 hr rfl).mono (fun e w' h => ?_)
    obtain ⟨h1, R, hR, hh⟩ := h
    rcases lok_nodes hp c1 c2 c3 hb hpn he hst hf hr rfl hR with ⟨e1, e2⟩ | ⟨Q', e1, e2⟩
    · subst e1
      rcases hh with ⟨_, k2, k3⟩ | ⟨_, _, _, _, k1, _⟩
      · exact ⟨0, 0, 0, false, k3, h1, Q, oo, oc, gv, lf, k2, hkeep w' h1, by rw [e2]; exact hst, .inl ⟨rfl, by rw [e2]⟩⟩
      · cases k1
    · subst e1
      rcases hh with ⟨k1, _⟩ | ⟨Q2, a, k, am, k1, _, k2, k3, k4, k5⟩
      · cases k1
      · cases k1
        obtain ⟨e3, e4⟩ := e2 am k2
        exact ⟨_, _, _, true, k5, h1, Q', a, k, _, _, k3, k4.weaken hbs, e3, .inr ⟨rfl, am, e4, by unfold slc; rw [if_neg (by rw [← rst_er he]; exact hr), er_id he]⟩⟩
end Go.Proofs.Ytdceahebkohbjab
