import Derived.Test.YtemmghneohnigaaDoorWpI
namespace Go.Proofs.YtemmghneohnigaaDoor
open Go.RowKit
/-! The printer: number, literal; printText, textOnly, tooMuch. -/
set_option maxRecDepth 20000 in
theorem pnum_any {w : World} {pb base : Nat} {v : Value} {l : List Int} {n : Int} (h : Prt w pb base v l) (h0 : -9223372036854775808 ≤ n) (h1 : n ≤ 9223372036854775807) (hE : Env w) (hn : l.length ≤ 1000000) :
    Calls Tryd.prog 32 #[.pointer (some ⟨pb, 0, none⟩), .int .i64 n] w fun e w' => e = .returned (.tuple #[]) ∧ (∃ v', Prt w' pb base v' (l ++ 32 :: numL n)) ∧ Chg w w' (fun b => base ≤ b) := by
  have hz : (numL n).length ≤ 21 := by unfold numL numsU; have := Lib.itoa_length_le n h0 h1; simpa using this
  have HI : Hid (Calls Tryd.prog 49 #[.int .i64 n] w fun e w' => e = .returned (.string (strOfNums (numL n))) ∧ Below w.heap.size w w') := (Tryd.strconv_Itoa n h0 h1 w hE.tab).mono (by
    rintro e w' ⟨rfl, k, os, rfl⟩
    exact ⟨by rw [numsU_str]; rfl, below_gr _ _ _⟩)
  have HP := hidd (fun (w1 : World) (f1 : Below w.heap.size w w1) => part_any (h.fresh f1) (s := numL n) (numsU_byt _) (by omega))
  clear h hE hz
  generalize strOfNums (numL n) = s at *
  go_enter Tryd.func32, Tryd.ntmps32
  go_wp2_with (first | (go_at_call 49; with_reducible refine (HI.out).mono ?_; rintro e w1 ⟨rfl, f1⟩) | (go_at_call 48; with_reducible refine (HP.out _ f1).mono ?_; rintro e w2 ⟨rfl, hp2, hk2⟩))
  go_end0
  exact ⟨rfl, hp2, Chg.pre f1 hk2⟩
set_option maxRecDepth 20000 in
set_option maxHeartbeats 1000000 in
theorem plit_any {w : World} {pb base : Nat} {v : Value} {l b : List Int} (h : Prt w pb base v l) (hb : Byt b) (hn : l.length ≤ 8192) (hbl : b.length ≤ 8192) :
    Calls Tryd.prog 81 #[.pointer (some ⟨pb, 0, none⟩), .string (strOfNums b)] w fun e w' => e = .returned (.tuple #[]) ∧ (∃ v', Prt w' pb base v' (l ++ 32 :: lit b)) ∧ Chg w w' (fun b => base ≤ b) := by
  have HF := hidd (full_any h)
  have hd : decide (8192 < l.length) = false := by simp; omega
  rw [hd] at HF
  have hpl := pies_len b
  have hll := lit_len b
  have HP := hidd (fun (w1 : World) (f1 : Below w.heap.size w w1) => part_any (h.fresh f1) (s := lit b) (lit_byt hb) (by omega))
  have hsz : (strOfNums b).size = b.length := strOfNums_size b
  obtain ⟨cc, w1, hcv, hf1, hz1, hc1, hc2, hcl⟩ := conv_bytes w (strOfNums b) (by rw [hsz]; omega)
  rw [hsz] at hcv hc1 hcl
  rw [str_bys hb] at hcl
  have HQ := hidd (quote_any (w := w1) (ao := some ⟨w.heap.size, 0, none⟩) (l := b) (cap := cc) ⟨hc1, hc2, fun _ => ⟨w.heap.size, 0, rfl, fun j hj => by rw [Nat.zero_add]; exact hcl j (by omega)⟩⟩ hb (by omega))
  have hx := str_ext b 0 b.length
  rw [List.take_length, List.drop_zero] at hx
  have HF1 := hidd hf1
  obtain ⟨n, en⟩ : ∃ n, n = b.length := ⟨_, rfl⟩
  rw [← en] at hsz hcv HQ hx hbl
  have hmin : ∀ ts t w, (Builtin.min_ ts t #[.int .i64 (n : Int), .int .i64 8192]).run Tryd.prog w = .ok (.int .i64 (n : Int)) w := fun ts t w => by
    rw [run_min_int2]
    congr 2
    split <;> omega
  clear h hd hpl hll hcl en hf1 hc1 hc2
  generalize strOfNums (lit b) = sl at *
  generalize strOfNums b = s at *
  go_enter Tryd.func81, Tryd.ntmps81
  go_wp2_with (first | (go_at_call 33; with_reducible refine (HF.out).mono ?_; rintro e w0 ⟨rfl, hw0⟩; rw [hw0]; clear hw0) | (go_at_call 9; with_reducible refine (HQ.out).mono ?_; rintro e w2 ⟨rfl, f2⟩; have f12 := fresh_trans HF1.out f2) | (go_at_call 48; with_reducible refine (HP.out _ f12).mono ?_; rintro e w3 ⟨rfl, hp3, hk3⟩))
  go_end0
  exact ⟨rfl, hp3, Chg.pre f12 hk3⟩
/-- a text's line, as a value -/
def lnV (n : Int) (ao : Option Addr) (m cap : Nat) : Array Value := #[.string ⟨#[116, 101, 120, 116]⟩, .int .i64 n, .slice ao m cap, .slice none 0 0, .int .u64 0, .string ⟨#[]⟩, .slice none 0 0]
set_option maxRecDepth 20000 in
set_option maxHeartbeats 1000000 in
theorem ptext_any {w : World} {pb base : Nat} {v : Value} {l b : List Int} {n : Int} {ao : Option Addr} {cap : Nat} (h : Prt w pb base v l) (hb : Byt b) (hn : l.length ≤ 8192) (hbl : b.length ≤ 8192) (hr : RdA w ao 1 b.length cap (byc b)) :
    Calls Tryd.prog 66 #[.pointer (some ⟨pb, 0, none⟩), .agg #[.string ⟨#[116, 101, 120, 116]⟩, .int .i64 n, .slice ao b.length cap, .slice none 0 0, .int .u64 0, .string ⟨#[]⟩, .slice none 0 0]] w fun e w' => e = .returned (.tuple #[]) ∧ (∃ v', Prt w' pb base v' (l ++ 32 :: lit b)) ∧ Chg w w' (fun b => base ≤ b) := by
  have fa := fresh_alloc w (.cells #[.string ⟨#[116, 101, 120, 116]⟩, .int .i64 n, .slice ao b.length cap, .slice none 0 0, .int .u64 0, .string ⟨#[]⟩, .slice none 0 0] 38)
  have hcv := conv_str (hr.fresh fa)
  have HP := hidd (plit_any (h.fresh fa) hb hn hbl)
  have HF := hidd fa
  clear h hr fa
  generalize strOfNums b = s at *
  generalize b.length = m at *
  go_enter Tryd.func66, Tryd.ntmps66
  go_wp2_with (go_at_call 81; with_reducible refine (HP.out).mono ?_; rintro e w2 ⟨rfl, hp2, hk2⟩)
  go_end0
  exact ⟨rfl, hp2, Chg.pre HF.out hk2⟩
set_option maxRecDepth 20000 in
theorem tonly_any {n : Int} {ao : Option Addr} {m cap : Nat} (w : World) :
    Calls Tryd.prog 67 #[.agg #[.string ⟨#[116, 101, 120, 116]⟩, .int .i64 n, .slice ao m cap, .slice none 0 0, .int .u64 0, .string ⟨#[]⟩, .slice none 0 0]] w fun e w' => e = .returned (.bool true) ∧ Below w.heap.size w w' := by
  go_enter Tryd.func67, Tryd.ntmps67
  go_wp2
  go_ret
  exact ⟨rfl, fresh_alloc _ _⟩
set_option maxRecDepth 20000 in
theorem toom_any {n : Int} {ao : Option Addr} {m cap : Nat} (hm : m ≤ 8192) (w : World) :
    Calls Tryd.prog 31 #[.agg #[.string ⟨#[116, 101, 120, 116]⟩, .int .i64 n, .slice ao m cap, .slice none 0 0, .int .u64 0, .string ⟨#[]⟩, .slice none 0 0]] w fun e w' => e = .returned (.bool false) ∧ Below w.heap.size w w' := by
  have b1 : decide ((8192 : Int) < (m : Int)) = false := by simp; omega
  go_enter Tryd.func31, Tryd.ntmps31
  go_wp2
  go_ret
  exact ⟨rfl, fresh_alloc _ _⟩
end Go.Proofs.YtemmghneohnigaaDoor
