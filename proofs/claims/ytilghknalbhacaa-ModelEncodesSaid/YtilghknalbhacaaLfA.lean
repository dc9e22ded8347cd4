import Derived.Test.YtilghknalbhacaaShC
import Derived.Test.YtilghknalbhacaaFits
import Derived.Test.YtilghknalbhacaaJAJ
namespace Go.Proofs.Ytilghknalbhacaa
open Go.RowKit
/-! A layer of the shape that its model asks. -/
def mtI (l : LyD) : Nat → MtD
  | 0 => l.q
  | 1 => l.k
  | 2 => l.v
  | 3 => l.o
  | 4 => l.g
  | 5 => l.u
  | _ => l.d
def rwI : Nat → Value
  | 0 => .func (.func 96) #[] #[]
  | 1 => .func (.func 98) #[] #[]
  | 2 => .func (.func 98) #[] #[]
  | 3 => .func (.func 96) #[] #[]
  | 4 => .func (.func 97) #[] #[]
  | 5 => .func (.func 97) #[] #[]
  | _ => .func (.func 96) #[] #[]
def clI : Nat → Value
  | 0 => .func (.func 96) #[] #[]
  | 1 => .func (.func 96) #[] #[]
  | 2 => .func (.func 96) #[] #[]
  | 3 => .func (.func 96) #[] #[]
  | 4 => .func (.func 96) #[] #[]
  | 5 => .func (.func 96) #[] #[]
  | _ => .func (.func 97) #[] #[]
def isI (l : LyD) (W kv D : Int) : Nat → Prop
  | 0 => l.q.isa W W
  | 1 => l.k.isa kv W
  | 2 => l.v.isa kv W
  | 3 => l.o.isa W W
  | 4 => l.g.isa D W
  | 5 => l.u.isa D W
  | _ => l.d.isa W D
theorem LyR.at {w : World} {l : LyD} (h : LyR w l) : ∀ i, MtR w (mtI l i)
  | 0 => h.q
  | 1 => h.k
  | 2 => h.v
  | 3 => h.o
  | 4 => h.g
  | 5 => h.u
  | _ + 6 => h.d
theorem fits_at {w : World} {l : LyD} (hl : LyR w l) (V W H K L D N M : Int) (kv : Int) (hH : 1 ≤ H) (hH4 : H ≤ 4) (hW : 2 ≤ W) (hW2 : W ≤ 32) (hkv : K * (W / H) = kv) (kv0 : 0 ≤ kv) (kv1 : kv ≤ 128) : ∀ (i : Nat), i < 7 → ∀ (b : Bool), (b = true ↔ isI l W kv D i) →
    Calls Try.prog 85 #[.agg #[rwI i, clI i], .agg #[.int .i64 V, .int .i64 W, .int .i64 H, .int .i64 K, .int .i64 L, .int .i64 D, .int .i64 N, .int .i64 M], .agg #[.int .i64 (mtI l i).R, .int .i64 (mtI l i).C, .slice (mtI l i).O (mtI l i).n (mtI l i).c]] w fun e w' => e = .returned (.bool b) ∧ Below w.heap.size w w'
  | 0, _, b, hb => fitsQO hl.q V W H K L D N M b hb
  | 1, _, b, hb => fitsKV hl.k V W H K L D N M kv hH hH4 hW hW2 hkv kv0 kv1 b hb
  | 2, _, b, hb => fitsKV hl.v V W H K L D N M kv hH hH4 hW hW2 hkv kv0 kv1 b hb
  | 3, _, b, hb => fitsQO hl.o V W H K L D N M b hb
  | 4, _, b, hb => fitsGU hl.g V W H K L D N M b hb
  | 5, _, b, hb => fitsGU hl.u V W H K L D N M b hb
  | 6, _, b, hb => fitsD hl.d V W H K L D N M b hb
theorem lyC_heap {w : World} {g : Nat} {l : LyD} {t : TypeId} {fr : Nat × Nat} (h : w.heap[g]? = some (.cells (lyL l).toArray t fr)) : LyC w g 0 l :=
  ⟨cell_heap h 0, cell_heap h 1, cell_heap h 2, cell_heap h 3, cell_heap h 4, cell_heap h 5, cell_heap h 6, cell_heap h 7, cell_heap h 8, cell_heap h 9, cell_heap h 10, cell_heap h 11, cell_heap h 12, cell_heap h 13, cell_heap h 14, cell_heap h 15, cell_heap h 16, cell_heap h 17, cell_heap h 18, cell_heap h 19, cell_heap h 20, cell_heap h 21, cell_heap h 22, cell_heap h 23, cell_heap h 24, cell_heap h 25, cell_heap h 26, cell_heap h 27, cell_heap h 28, cell_heap h 29⟩
theorem pm7_at0 (b o : Nat) (w : World) : (Instr.index 104 (.agg (pm7 b o)) (.int .i64 0)).run Try.prog w = .ok (.pointer (some ⟨b, o + 2, none⟩)) w := by kernel_rfl
theorem pm7_at1 (b o : Nat) (w : World) : (Instr.index 104 (.agg (pm7 b o)) (.int .i64 1)).run Try.prog w = .ok (.pointer (some ⟨b, o + 5, none⟩)) w := by kernel_rfl
theorem pm7_at2 (b o : Nat) (w : World) : (Instr.index 104 (.agg (pm7 b o)) (.int .i64 2)).run Try.prog w = .ok (.pointer (some ⟨b, o + 8, none⟩)) w := by kernel_rfl
theorem pm7_at3 (b o : Nat) (w : World) : (Instr.index 104 (.agg (pm7 b o)) (.int .i64 3)).run Try.prog w = .ok (.pointer (some ⟨b, o + 11, none⟩)) w := by kernel_rfl
theorem pm7_at4 (b o : Nat) (w : World) : (Instr.index 104 (.agg (pm7 b o)) (.int .i64 4)).run Try.prog w = .ok (.pointer (some ⟨b, o + 14, none⟩)) w := by kernel_rfl
theorem pm7_at5 (b o : Nat) (w : World) : (Instr.index 104 (.agg (pm7 b o)) (.int .i64 5)).run Try.prog w = .ok (.pointer (some ⟨b, o + 17, none⟩)) w := by kernel_rfl
theorem pm7_at6 (b o : Nat) (w : World) : (Instr.index 104 (.agg (pm7 b o)) (.int .i64 6)).run Try.prog w = .ok (.pointer (some ⟨b, o + 20, none⟩)) w := by kernel_rfl
theorem pm7_at (b o k : Nat) (h : k < 7) (w : World) : (Instr.index 104 (.agg (pm7 b o)) (.int .i64 (k : Int))).run Try.prog w = .ok (.pointer (some ⟨b, o + (2 + 3 * k), none⟩)) w := by
  match k, h with
  | 0, _ => exact pm7_at0 b o w
  | 1, _ => exact pm7_at1 b o w
  | 2, _ => exact pm7_at2 b o w
  | 3, _ => exact pm7_at3 b o w
  | 4, _ => exact pm7_at4 b o w
  | 5, _ => exact pm7_at5 b o w
  | 6, _ => exact pm7_at6 b o w
theorem LyC.mat {w : World} {b : Nat} {l : LyD} (h : LyC w b 0 l) : ∀ k, k < 7 → w.cell? ⟨b, 2 + 3 * k, none⟩ = some (.int .i64 (mtI l k).R) ∧ w.cell? ⟨b, 2 + 3 * k + 1, none⟩ = some (.int .i64 (mtI l k).C) ∧ w.cell? ⟨b, 2 + 3 * k + 2, none⟩ = some (.slice (mtI l k).O (mtI l k).n (mtI l k).c) := by
  obtain ⟨y0, y1, y2, y3, y4, y5, y6, y7, y8, y9, y10, y11, y12, y13, y14, y15, y16, y17, y18, y19, y20, y21, y22, y23, y24, y25, y26, y27, y28, y29⟩ := h
  intro k hk
  match k, hk with
  | 0, _ => exact ⟨y2, y3, y4⟩
  | 1, _ => exact ⟨y5, y6, y7⟩
  | 2, _ => exact ⟨y8, y9, y10⟩
  | 3, _ => exact ⟨y11, y12, y13⟩
  | 4, _ => exact ⟨y14, y15, y16⟩
  | 5, _ => exact ⟨y17, y18, y19⟩
  | 6, _ => exact ⟨y20, y21, y22⟩
theorem tab8_at {w : World} {g : Nat} {t : TypeId} {fr : Nat × Nat} (h : w.heap[g]? = some (.cells tab8 t fr)) : ∀ k, k < 7 → w.cell? ⟨g, k * 2, none⟩ = some (rwI k) ∧ w.cell? ⟨g, k * 2 + 1, none⟩ = some (clI k)
  | 0, _ => ⟨cell_heap h 0, cell_heap h 1⟩
  | 1, _ => ⟨cell_heap h 2, cell_heap h 3⟩
  | 2, _ => ⟨cell_heap h 4, cell_heap h 5⟩
  | 3, _ => ⟨cell_heap h 6, cell_heap h 7⟩
  | 4, _ => ⟨cell_heap h 8, cell_heap h 9⟩
  | 5, _ => ⟨cell_heap h 10, cell_heap h 11⟩
  | 6, _ => ⟨cell_heap h 12, cell_heap h 13⟩
end Go.Proofs.Ytilghknalbhacaa
