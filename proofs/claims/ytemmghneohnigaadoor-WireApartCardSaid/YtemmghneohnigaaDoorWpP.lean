import Derived.Test.YtemmghneohnigaaDoorPM
import Derived.Test.YtemmghneohnigaaDoorWqO
import Derived.ChangeMaps5
import Derived.Stop.LaidErr
import Derived.Lib.LaidTab
import Derived.MakeChecks
namespace Go.Proofs.YtemmghneohnigaaDoor
open Go.ChangeShapes Go.WideShapes Go.ChangeAt Go.RowKit
/-! What the laid variables give; the law WireUnquotes, from what came in. -/
def laid5 : List (String × DataW Unit) := [("math/bits.deBruijn32tab", Rows.laid_math_bits_deBruijn32tab), ("math/bits.deBruijn64tab", Rows.laid_math_bits_deBruijn64tab), ("internal/strconv.uint64pow10", Rows.laid_internal_strconv_uint64pow10), ("strconv.ErrRange", Rows.laid_strconv_ErrRange), ("strconv.ErrSyntax", Rows.laid_strconv_ErrSyntax)]
theorem starErr : "*" ++ "errors.errorString" = "*errors.errorString" := by decide
theorem rowErr (u : TypeId) (h : Tryd.prog.typeName? 3 u = some "*errors.errorString") : u = 120 :=
  typeName_ptr_named (nm := "errors.errorString") (by rw [starErr]; kernel_rfl) (by kernel_rfl) (by decide) u (by rw [starErr]; exact h)
theorem var_lt {w : World} {n : String} {g : Nat} {cs : Array Value} (hg : Tryd.prog.globalNamed n = some g) (h : w.var? Tryd.prog n = some cs) : g < w.heap.size := by
  unfold World.var? at h
  rw [hg] at h
  rcases Nat.lt_or_ge g w.heap.size with h' | h'
  · exact h'
  · simp [Array.getElem?_eq_none h'] at h
theorem gB64 : Tryd.prog.globalNamed "math/bits.deBruijn64tab" = some 5 := by kernel_rfl
theorem pow10_data : Rows.laid_internal_strconv_uint64pow10 (H := Unit) = Lib.tabData .u64 Lib.pow10Tab := by
  have : Lib.pow10Tab = [1, 10, 100, 1000, 10000, 100000, 1000000, 10000000, 100000000, 1000000000, 10000000000, 100000000000, 1000000000000, 10000000000000, 100000000000000, 1000000000000000, 10000000000000000, 100000000000000000, 1000000000000000000, 10000000000000000000] := by decide +kernel
  rw [this]
  rfl
theorem env_of {W : World} (h : laidMetH Tryd.prog laid5 W) : Env W := by
  rw [Go.MakeChecks.laidMetH_plain _ _ _ (by decide +kernel)] at h
  have h1 : laidMet Tryd.prog _ W := laidMet.tail h
  have hb : 5 < W.heap.size := by
    obtain ⟨ps, ⟨g, t, cs, fuel, p, q, hg, _, hv, _⟩, _⟩ := h1
    exact var_lt gB64 hv
  have h2 := laidMet.tail h1
  have h3 := laidMet.tail h2
  have h4 := laidMet.tail h3
  rw [pow10_data] at h2
  obtain ⟨a, s, hv, _⟩ := laid_sentinel h3 gRan (by kernel_rfl) Tryd.underlying84 rowErr Tryd.underlying120 Tryd.underlying122 rfl rfl Tryd.underlying9 (by kernel_rfl) (by kernel_rfl)
  obtain ⟨a', s', hv', _⟩ := laid_sentinel h4 gSyn (by kernel_rfl) Tryd.underlying84 rowErr Tryd.underlying120 Tryd.underlying122 rfl rfl Tryd.underlying9 (by kernel_rfl) (by kernel_rfl)
  exact ⟨⟨_, _, hv'⟩, ⟨_, _, hv⟩, Lib.tabIs_of_head gTab (by kernel_rfl) Tryd.underlying115 Tryd.underlying32 (by kernel_rfl) (by kernel_rfl) h2, hb⟩
set_option maxRecDepth 20000 in
theorem wireUnquotes_walk {H : Type} {enc : TypeId × Value → H} {base : Nat} {sp : Nat → Bool} {held : Bool} {r : Reach} {b0 : Nat} {v0 : Value} {d0 : DataW H} {ps0 : List MemPlace} (W : World) (hE : Env W)
    (hval0 : Value.okWide Tryd.prog W r b0 9 v0) (h0 : DataW.Trod enc Tryd.prog W base sp held 9 v0 d0 ps0)
    (hb : Rows.uptoBulkAll [d0] ≤ 1048576) :
    Calls Tryd.prog 4 #[v0] W fun e w' => e = .returned (.bool true) ∧ Below W.heap.size W w' := by
  obtain ⟨s, rfl, rfl, rfl, _⟩ := Go.ChangeMaps.open_string Tryd.underlying9 hval0 h0
  have hz : s.size ≤ 1048576 := by
    simp only [Rows.uptoBulkAll, Rows.uptoBulk, Array.length_toList] at hb
    have : s.data.size = s.size := rfl
    omega
  have := unquotes_law (bys_byt s) (by rw [bys_len]; omega) hE
  rw [bys_str] at this
  exact this
end Go.Proofs.YtemmghneohnigaaDoor
