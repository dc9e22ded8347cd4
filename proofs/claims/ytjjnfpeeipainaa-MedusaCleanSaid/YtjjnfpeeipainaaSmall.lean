import Derived.Test.YtjjnfpeeipainaaRows
import Derived.Test.YtjjnfpeeipainaaOwn
import Derived.Test.YtjjnfpeeipainaaTens
namespace Go.Proofs.Ytjjnfpeeipainaa
open Go.RowKit
/-! mod, at, order. -/
theorem infoI : (Try.prog.info? 3).map (fun i => (i.zero, i.size, i.bytes)) = some (some (.int .i64 0), 1, 8) := by kernel_rfl
theorem infoI8 : (Try.prog.info? 51).map (fun i => (i.zero, i.size, i.bytes)) = some (some (.int .i8 0), 1, 1) := by kernel_rfl
theorem infoI64 : (Try.prog.info? 2).map (fun i => (i.zero, i.size, i.bytes)) = some (some (.int .i64 0), 1, 8) := by kernel_rfl
def atf (n : Nat) (f : Nat → Int) (i : Nat) : Int := if n = 0 then 0 else f (i % n)
/-- What a list of the call's own is, once it is not grown any more: a row. -/
theorem Own.row {w : World} {base : Nat} {e : TypeId} {sz : Nat} {v : Value} {n : Nat} {cs : Nat → Value} (h : Own w base e sz v n cs) (hn : 0 < n) :
    ∃ g cap F, v = .slice (some ⟨g, 0, none⟩) n cap ∧ n ≤ cap ∧ cap ≤ maxLen ∧ base ≤ g ∧ w.rowIs g e (cap * sz) F ∧ ∀ j, j < n * sz → F j = cs j := by
  rcases h.2 with ⟨rfl, rfl⟩ | ⟨g, cap, cur, rfl, hb, hg, hnc, hcm, hcs, htake⟩
  · omega
  · refine ⟨g, cap, fun j => cur[j]?.getD (.bool false), rfl, hnc, hcm, hb, ⟨cur, hg, hcs, fun i hi => ?_⟩, fun j hj => ?_⟩
    · show cur[i]? = some (cur[i]?.getD _)
      rw [Array.getElem?_eq_getElem (by omega)]; rfl
    · have h1 := congrArg (fun l => l[j]?) htake
      simp only [List.getElem?_take, hj, if_true, List.getElem?_map, List.getElem?_range hj, Option.map_some, Array.getElem?_toList] at h1
      show cur[j]?.getD _ = cs j
      rw [h1]; rfl
theorem Own.row1 {w : World} {base : Nat} {e : TypeId} {v : Value} {n : Nat} {cs : Nat → Value} (h : Own w base e 1 v n cs) (hn : 0 < n) :
    ∃ g cap F, v = .slice (some ⟨g, 0, none⟩) n cap ∧ n ≤ cap ∧ cap ≤ maxLen ∧ base ≤ g ∧ w.rowIs g e cap F ∧ ∀ j, j < n → F j = cs j := by
  obtain ⟨g, cap, F, h1, h2, h3, h4, h5, h6⟩ := h.row hn
  exact ⟨g, cap, F, h1, h2, h3, h4, by simpa using h5, fun j hj => h6 j (by omega)⟩
theorem rowIs_rd' {w : World} {b n cap : Nat} {t : TypeId} {f : Nat → Value} (h : w.rowIs b t cap f) (hn : n ≤ cap) (hc : cap ≤ maxLen) : RdA w (some ⟨b, 0, none⟩) 1 n cap f :=
  ⟨hn, hc, fun _ => ⟨b, 0, rfl, fun j hj => by simpa using h.cell (i := j) (by omega)⟩⟩
end Go.Proofs.Ytjjnfpeeipainaa
