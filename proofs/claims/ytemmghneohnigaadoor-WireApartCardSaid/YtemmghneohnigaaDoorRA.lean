import Derived.Test.YtemmghneohnigaaDoorPM
namespace Go.Proofs.YtemmghneohnigaaDoor
open Go.RowKit
/-! Any line: textOnly, nothing, askOnly, tooMuch, printNothing. -/
/-- a line, as a value -/
abbrev lnA (wd : ByteArray) (n : Int) (ao : Option Addr) (am ac : Nat) (bo : Option Addr) (bm bc : Nat) (sd : Int) (gd : ByteArray) (co : Option Addr) (cm cc : Nat) : Array Value := #[.string wd, .int .i64 n, .slice ao am ac, .slice bo bm bc, .int .u64 sd, .string gd, .slice co cm cc]
section
variable {wd : ByteArray} {n : Int} {ao : Option Addr} {am ac : Nat} {bo : Option Addr} {bm bc : Nat} {sd : Int} {g : List Int} {co : Option Addr} {cm cc : Nat}
set_option maxRecDepth 20000 in
set_option maxHeartbeats 1000000 in
theorem tonly_gen (hg : Byt g) (hcm : cm ≤ 140737488355328) (w : World) :
    Calls Tryd.prog 67 #[.agg (lnA wd n ao am ac bo bm bc sd (strOfNums g) co cm cc)] w fun e w' => e = .returned (.bool (decide (sd = 0 ∧ g = [] ∧ cm = 0))) ∧ Below w.heap.size w w' := by
  have hge := str_eq hg byt_nil
  rw [show strOfNums [] = (⟨#[]⟩ : ByteArray) from rfl] at hge
  have HF := hidd (fresh_alloc w (.cells (lnA wd n ao am ac bo bm bc sd (strOfNums g) co cm cc) 38))
  have hnl : (⟨#[]⟩ : ByteArray).toList = [] := by decide +kernel
  rw [hnl] at hge
  clear hnl
  generalize strOfNums g = gd at *
  generalize hq : decide (sd = 0 ∧ g = [] ∧ cm = 0) = q
  have HQ := hidd hq
  clear hq
  by_cases h1 : sd = 0
  · by_cases h2 : g = []
    · rw [decide_eq_true h2] at hge
      have htl : gd.toList = [] := by simpa using hge
      by_cases h3 : cm = 0
      · obtain rfl : q = true := by rw [← HQ.out]; simp [h1, h2, h3]
        subst h1 h3
        clear h2 hge HQ
        go_enter Tryd.func67, Tryd.ntmps67
        go_wp2
        go_ret
        exact ⟨rfl, HF.out⟩
      · obtain rfl : q = false := by rw [← HQ.out]; simp [h3]
        subst h1
        have b1 : ((cm : Int) == 0) = false := by simp; omega
        clear h2 hge HQ
        go_enter Tryd.func67, Tryd.ntmps67
        go_wp2
        go_ret
        exact ⟨rfl, HF.out⟩
    · rw [decide_eq_false h2] at hge
      have htl : ¬ gd.toList = [] := by simpa using hge
      have hie : gd.toList.isEmpty = false := by simpa using htl
      obtain rfl : q = false := by rw [← HQ.out]; simp [h2]
      subst h1
      clear h2 HQ
      go_enter Tryd.func67, Tryd.ntmps67
      go_wp2
      go_ret
      exact ⟨rfl, HF.out⟩
  · obtain rfl : q = false := by rw [← HQ.out]; simp [h1]
    have b1 : (sd == 0) = false := by simpa using h1
    clear HQ
    go_enter Tryd.func67, Tryd.ntmps67
    go_wp2
    go_ret
    exact ⟨rfl, HF.out⟩
set_option maxRecDepth 20000 in
set_option maxHeartbeats 1000000 in
theorem none_gen (hg : Byt g) (ham : am ≤ 140737488355328) (hcm : cm ≤ 140737488355328) (w : World) :
    Calls Tryd.prog 64 #[.agg (lnA wd n ao am ac bo bm bc sd (strOfNums g) co cm cc)] w fun e w' => e = .returned (.bool (decide (am = 0 ∧ sd = 0 ∧ g = [] ∧ cm = 0))) ∧ Below w.heap.size w w' := by
  have hf := (fresh_alloc w (.cells (lnA wd n ao am ac bo bm bc sd (strOfNums g) co cm cc) 38))
  have HF := hidd hf
  have HT := hidd (fun w1 => tonly_gen (wd := wd) (n := n) (ao := ao) (am := am) (ac := ac) (bo := bo) (bm := bm) (bc := bc) (sd := sd) (co := co) (cc := cc) hg hcm w1)
  clear hf
  generalize hq : decide (sd = 0 ∧ g = [] ∧ cm = 0) = q at *
  have HQ := hidd hq
  clear hq
  generalize hr : decide (am = 0 ∧ sd = 0 ∧ g = [] ∧ cm = 0) = r
  have HR := hidd hr
  clear hr
  generalize strOfNums g = gd at *
  by_cases h1 : am = 0
  · obtain rfl : r = q := by rw [← HQ.out, ← HR.out]; simp [h1]
    subst h1
    clear HQ HR
    cases r
    · go_enter Tryd.func64, Tryd.ntmps64
      go_wp2_with (go_at_call 67; with_reducible refine (HT.out _).mono ?_; rintro e w1 ⟨rfl, hf1⟩)
      go_ret
      exact ⟨rfl, fresh_trans HF.out hf1⟩
    · go_enter Tryd.func64, Tryd.ntmps64
      go_wp2_with (go_at_call 67; with_reducible refine (HT.out _).mono ?_; rintro e w1 ⟨rfl, hf1⟩)
      go_ret
      exact ⟨rfl, fresh_trans HF.out hf1⟩
  · obtain rfl : r = false := by rw [← HR.out]; simp [h1]
    have b1 : ((am : Int) == 0) = false := by simp; omega
    clear HQ HR
    go_enter Tryd.func64, Tryd.ntmps64
    go_wp2
    go_ret
    exact ⟨rfl, HF.out⟩
set_option maxRecDepth 20000 in
theorem aonly_gen {gd : ByteArray} (w : World) :
    Calls Tryd.prog 61 #[.agg (lnA wd n ao am ac bo bm bc sd gd co cm cc)] w fun e w' => e = .returned (.bool true) ∧ Below w.heap.size w w' := by
  have HF := hidd (fresh_alloc w (.cells (lnA wd n ao am ac bo bm bc sd gd co cm cc) 38))
  go_enter Tryd.func61, Tryd.ntmps61
  go_wp2
  go_ret
  exact ⟨rfl, HF.out⟩
set_option maxRecDepth 20000 in
theorem pnone_gen {gd : ByteArray} {p : Value} (w : World) :
    Calls Tryd.prog 63 #[p, .agg (lnA wd n ao am ac bo bm bc sd gd co cm cc)] w fun e w' => e = .returned (.tuple #[]) ∧ Below w.heap.size w w' := by
  have HF := hidd (fresh_alloc w (.cells (lnA wd n ao am ac bo bm bc sd gd co cm cc) 38))
  go_enter Tryd.func63, Tryd.ntmps63
  go_wp2
  go_end0
  exact ⟨rfl, HF.out⟩
set_option maxRecDepth 20000 in
set_option maxHeartbeats 1000000 in
theorem toom_gen {gd : ByteArray} (ham : am ≤ 140737488355328) (hgm : gd.size ≤ 140737488355328) (hcm : cm ≤ 140737488355328) (w : World) :
    Calls Tryd.prog 31 #[.agg (lnA wd n ao am ac bo bm bc sd gd co cm cc)] w fun e w' => e = .returned (.bool (decide (8192 < am ∨ 8192 < gd.size ∨ 2730 < cm))) ∧ Below w.heap.size w w' := by
  have HF := hidd (fresh_alloc w (.cells (lnA wd n ao am ac bo bm bc sd gd co cm cc) 38))
  obtain ⟨gz, hgz⟩ : ∃ gz, gd.size = gz := ⟨_, rfl⟩
  rw [hgz] at hgm ⊢
  generalize hq : decide (8192 < am ∨ 8192 < gz ∨ 2730 < cm) = q
  have HQ := hidd hq
  clear hq
  by_cases h1 : 8192 < am
  · obtain rfl : q = true := by rw [← HQ.out]; simp [h1]
    have b1 : decide ((8192 : Int) < (am : Int)) = true := by simp; omega
    go_enter Tryd.func31, Tryd.ntmps31
    go_wp2
    go_ret
    exact ⟨rfl, HF.out⟩
  · have b1 : decide ((8192 : Int) < (am : Int)) = false := by simp; omega
    by_cases h2 : 8192 < gz
    · obtain rfl : q = true := by rw [← HQ.out]; simp [h2]
      have b2 : decide ((8192 : Int) < (gz : Int)) = true := by simp; omega
      go_enter Tryd.func31, Tryd.ntmps31
      go_wp2
      go_ret
      exact ⟨rfl, HF.out⟩
    · have b2 : decide ((8192 : Int) < (gz : Int)) = false := by simp; omega
      by_cases h3 : 2730 < cm
      · obtain rfl : q = true := by rw [← HQ.out]; simp [h3]
        have b3 : decide ((2730 : Int) < (cm : Int)) = true := by simp; omega
        go_enter Tryd.func31, Tryd.ntmps31
        go_wp2
        go_ret
        exact ⟨rfl, HF.out⟩
      · obtain rfl : q = false := by rw [← HQ.out]; simp [h1, h2, h3]
        have b3 : decide ((2730 : Int) < (cm : Int)) = false := by simp; omega
        go_enter Tryd.func31, Tryd.ntmps31
        go_wp2
        go_ret
        exact ⟨rfl, HF.out⟩
end
end Go.Proofs.YtemmghneohnigaaDoor
namespace Go.Proofs.YtemmghneohnigaaDoor
open Go.RowKit
/-! strconv.FormatUint at base 10. -/
theorem holds_zero0 (w : World) (T : TypeId) (nd : Nat) (hs : nd ≤ 24) : Sort.Holds (fun (b : UInt8) => Value.int .u8 (b.toNat : Int)) (w.alloc (.cells Lib.zeros24 T)) w.heap.size 0 (Array.replicate nd (0 : UInt8)) := fun j hj => by
  have hj' : j < nd := by simpa using hj
  refine ⟨?_, World.frozen?_alloc_new _ _ _ _⟩
  rw [World.cell?_alloc_new, Lib.zeros24_at _ (by omega), getElem!_pos _ j hj]
  simp
theorem fin_pos0 (w : World) (o : Obj) (dk : Array UInt8) (k : Nat) : ∃ os, (Sort.putRow (fun (b : UInt8) => Value.int .u8 (b.toNat : Int)) (w.alloc o) w.heap.size 0 dk).drewN k = Sort.grow (w.drewN k) os := by
  rw [Sort.alloc_eq_grow]
  obtain ⟨os', _, e⟩ := Sort.putRow_grow_new (fun (b : UInt8) => Value.int .u8 (b.toNat : Int)) w #[o] w.heap.size 0 dk (Nat.le_refl _)
  exact ⟨os', by rw [e]; rfl⟩
set_option maxRecDepth 100000 in
set_option maxHeartbeats 1000000 in
theorem ifuint_any (u : Nat) (hu64 : u < 18446744073709551616) {w : World} (hE : Env w) :
    Calls Tryd.prog 95 #[.int .u64 u, .int .i64 10] w fun e w' => e = .returned (.string (strOfNums (decL u))) ∧ Below w.heap.size w w' := by
  have htab := hidd hE.tab
  have ES : strOfNums (decL u) = ⟨(Lib.decDigits u).toArray⟩ := by unfold decL; rw [numsU_str]
  rw [ES]
  clear ES hE
  by_cases hs : u < 100
  · have b1 : decide ((u : Int) < 100) = true := by simp; omega
    have hw : IntKind.i64.wrap (u : Int) = (u : Int) := by rw [IntKind.wrap_i64]; omega
    go_enter Tryd.func95, Tryd.ntmps95
    go_wp2_with (go_at_call 83; with_reducible refine (Tryd.internal_strconv_small u hs _).mono ?_; rintro e w' ⟨rfl, hw'⟩; rw [hw']; clear hw')
    go_ret
    exact ⟨rfl, Below.refl _ _⟩
  · have hu1 : 1 ≤ u := by omega
    have hnd20 : Lib.nDigits u ≤ 20 := by have := Lib.numDigits_eq u hu1 hu64; split at this <;> omega
    have b1 : decide ((u : Int) < 100) = false := by simp; omega
    have hal : Tryd.prog.arrayLen 103 = 24 := by simp [Program.arrayLen, Tryd.underlying103]
    have hsl1 : ∀ W, (Instr.sliceAt 103 (.pointer (some ⟨w.heap.size, 0, none⟩)) none (some (.int .i64 (Lib.nDigits u : Int))) none).run Tryd.prog W = .ok (.slice (some ⟨w.heap.size, 0, none⟩) (Lib.nDigits u) 24) W := fun W => by
      rw [run_sliceAt_array_h W 103 ⟨w.heap.size, 0, none⟩ (by simp [Program.arrayLen, Program.elem, Tryd.underlying103]) .i64 (Lib.nDigits u : Int) (by omega) (by rw [hal]; omega)]
      go_simp
    have hH0 := holds_zero0 w 103 (Lib.nDigits u) (by omega)
    have hfmt := Tryd.internal_strconv_formatBase10 w.heap.size 0 24 u (Array.replicate (Lib.nDigits u) 0) (w.alloc (.cells Lib.zeros24 103)) hH0 (by rw [Array.size_replicate]; exact Lib.lt_pow_nDigits u) hu64 (by rw [Array.size_replicate]; omega)
    rw [Array.size_replicate] at hfmt
    have HH0 := hidd hH0
    have HFM := hidd hfmt
    clear hH0 hal hfmt
    go_enter Tryd.func95, Tryd.ntmps95
    go_wp2_with (go_at_call 84; with_reducible refine (Tryd.internal_strconv_numDigits u hu1 hu64 _ (Lib.tabIs_alloc htab.out _)).mono ?_; rintro e w' ⟨rfl, hw'⟩; rw [hw']; clear hw')
    go_at_call 85
    refine (HFM.out).mono ?_
    rintro e w' ⟨rfl, k, v', dk, rfl, hF⟩
    have hcv : (convert 22 9 (.slice (some ⟨w.heap.size, 0, none⟩) (Lib.nDigits u) 24)).run Tryd.prog ((Sort.putRow (fun (b : UInt8) => Value.int .u8 (b.toNat : Int)) (w.alloc (.cells Lib.zeros24 103)) w.heap.size 0 dk).drewN k) = .ok (.string ⟨(Lib.decDigits u).toArray⟩) ((Sort.putRow (fun (b : UInt8) => Value.int .u8 (b.toNat : Int)) (w.alloc (.cells Lib.zeros24 103)) w.heap.size 0 dk).drewN k) := by
      have h := run_convert_bytes_back (P := Tryd.prog) ((Sort.putRow (fun (b : UInt8) => Value.int .u8 (b.toNat : Int)) (w.alloc (.cells Lib.zeros24 103)) w.heap.size 0 dk).drewN k) 22 9 5 ⟨w.heap.size, 0, none⟩ 24 (Lib.decDigits u) Tryd.underlying22 Tryd.underlying5 Tryd.underlying9 (fun j hj => by
        rw [Lib.row_is_numeral hF j hj, Lib.add_plain, World.cell?_drewN]
        exact Sort.cell?_putRow (fun (b : UInt8) => Value.int .u8 (b.toNat : Int)) _ w.heap.size 0 _ dk HH0.out (by rw [hF.size, Array.size_replicate]) j (by rw [hF.size]; rw [Lib.decDigits_length] at hj; exact hj))
      rw [Lib.decDigits_length] at h
      exact h
    obtain ⟨os, eo⟩ := fin_pos0 w (.cells Lib.zeros24 103) dk k
    rw [eo] at hcv ⊢
    clear eo hF HFM HH0
    go_wp2
    go_ret
    exact ⟨rfl, below_gr _ _ _⟩
set_option maxRecDepth 20000 in
theorem fuint_any (u : Nat) (hu64 : u < 18446744073709551616) {w : World} (hE : Env w) :
    Calls Tryd.prog 89 #[.int .u64 u, .int .i64 10] w fun e w' => e = .returned (.string (strOfNums (decL u))) ∧ Below w.heap.size w w' := by
  have HI := hidd (ifuint_any u hu64 hE)
  clear hE
  generalize strOfNums (decL u) = s at *
  go_enter Tryd.func89, Tryd.ntmps89
  go_wp2_with (go_at_call 95; with_reducible refine (HI.out).mono ?_; rintro e w1 ⟨rfl, f1⟩)
  go_ret
  exact ⟨rfl, f1⟩
theorem decL_len (u : Nat) (hu64 : u < 18446744073709551616) : (decL u).length ≤ 20 := by
  unfold decL numsU
  simp only [List.length_map]
  by_cases h : 1 ≤ u
  · rw [Lib.decDigits_length]
    have := Lib.numDigits_eq u h hu64
    split at this <;> omega
  · obtain rfl : u = 0 := by omega
    decide +kernel
set_option maxRecDepth 20000 in
theorem pseed_any {w : World} {pb base : Nat} {v : Value} {l : List Int} {u : Nat} (h : Prt w pb base v l) (hu64 : u < 18446744073709551616) (hE : Env w) (hn : l.length ≤ 1000000) :
    Calls Tryd.prog 80 #[.pointer (some ⟨pb, 0, none⟩), .int .u64 u] w fun e w' => e = .returned (.tuple #[]) ∧ (∃ v', Prt w' pb base v' (l ++ 32 :: decL u)) ∧ Chg w w' (fun b => base ≤ b) := by
  have hz := decL_len u hu64
  have HI := hidd (fuint_any u hu64 hE)
  have HP := hidd (fun (w1 : World) (f1 : Below w.heap.size w w1) => part_any (h.fresh f1) (s := decL u) (numsU_byt _) (by omega))
  clear h hE hz
  generalize strOfNums (decL u) = s at *
  go_enter Tryd.func80, Tryd.ntmps80
  go_wp2_with (first | (go_at_call 89; with_reducible refine (HI.out).mono ?_; rintro e w1 ⟨rfl, f1⟩) | (go_at_call 48; with_reducible refine (HP.out _ f1).mono ?_; rintro e w2 ⟨rfl, hp2, hk2⟩))
  go_end0
  exact ⟨rfl, hp2, Chg.pre f1 hk2⟩
end Go.Proofs.YtemmghneohnigaaDoor
namespace Go.Proofs.YtemmghneohnigaaDoor
open Go.RowKit
/-! The printer, more finely: what a part changes. -/
structure Pst (w w' : World) (pb base : Nat) (v v' : Value) (l : List Int) : Prop where
  prt : Prt w' pb base v' l
  chg : Chg w w' (fun b => b = pb ∨ v.ownBlock = some b)
  own : ∀ g, v'.ownBlock = some g → v.ownBlock = some g ∨ w.heap.size ≤ g
theorem Pst.trans {w w1 w2 : World} {pb base : Nat} {v v1 v2 : Value} {l1 l2 : List Int} (h : Pst w w1 pb base v v1 l1) (h' : Pst w1 w2 pb base v1 v2 l2) : Pst w w2 pb base v v2 l2 := by
  refine ⟨h'.prt, h.chg.trans h'.chg (fun b hlt s => ?_), fun g hg => ?_⟩
  · rcases s with s | s
    · exact .inl s
    · rcases h.own b s with q | q
      · exact .inr q
      · omega
  · rcases h'.own g hg with q | q
    · exact h.own g q
    · have := h.chg.size; exact .inr (by omega)
theorem Pst.pre {w w1 w2 : World} {pb base : Nat} {v v2 : Value} {l2 : List Int} (f : Below w.heap.size w w1) (h' : Pst w1 w2 pb base v v2 l2) : Pst w w2 pb base v v2 l2 :=
  ⟨h'.prt, Chg.pre f h'.chg, fun g hg => by
    rcases h'.own g hg with q | q
    · exact .inl q
    · have := f.size; exact .inr (by omega)⟩
theorem Pst.refl {w : World} {pb base : Nat} {v : Value} {l : List Int} (h : Prt w pb base v l) : Pst w w pb base v v l := ⟨h, Chg.refl _ _, fun _ hg => .inl hg⟩
theorem Prt.own_ge {w : World} {pb base : Nat} {v : Value} {l : List Int} (h : Prt w pb base v l) : ∀ g, v.ownBlock = some g → base ≤ g := fun g hg => by
  obtain ⟨g', cap, rfl, hbg, _⟩ := h.txt
  simp [Value.ownBlock] at hg
  omega
theorem Pst.coarse {w w' : World} {pb base : Nat} {v v' : Value} {l0 l : List Int} (h0 : Prt w pb base v l0) (h : Pst w w' pb base v v' l) : Chg w w' (fun b => base ≤ b) := h.chg.imp (fun b _ s => by
  rcases s with s | s
  · rw [s]; exact h0.bp
  · exact h0.own_ge b s)
set_option maxRecDepth 20000 in
set_option maxHeartbeats 1000000 in
theorem part_fine {w : World} {pb base : Nat} {v : Value} {l s : List Int} (h : Prt w pb base v l) (hs : Byt s) (hn : l.length + s.length + 1 ≤ 140737488355328) :
    Calls Tryd.prog 48 #[.pointer (some ⟨pb, 0, none⟩), .string (strOfNums s)] w fun e w' => e = .returned (.tuple #[]) ∧ ∃ v', Pst w w' pb base v v' (l ++ 32 :: s) := by
  have hbp := h.bp
  have hpb := h.blk.lt
  have hvb : ∀ g, v.ownBlock = some g → base ≤ g := fun g hg => by
    obtain ⟨g', cap, rfl, hbg, _⟩ := h.txt
    simp [Value.ownBlock] at hg
    omega
  have c0 := h.blk.cell 0
  simp at c0
  have f0 := h.blk.frozen 0
  have fa := fresh_alloc w (.cells #[.int .u8 32] 5)
  obtain ⟨v1, w1, hr1, ht1, hc1, hv1⟩ := run_app_one (h.txt.fresh fa) (new_cell w (.int .u8 32) 5) (c := 1) (by simp; omega) (by omega) 22
  have hk1 : Chg w w1 (fun b => b = pb ∨ v.ownBlock = some b) := ((Chg.of_below (fun b => b = pb ∨ v.ownBlock = some b) fa)).trans hc1 (fun b _ hb => .inr hb)
  have hB1 := (h.blk.fresh fa).chg hc1 (fun e => h.ne e)
  have y1 := hB1.cell 0
  simp at y1
  have z1 := hB1.frozen 0
  have hne1 : v1.ownBlock ≠ some pb := fun e => by
    rcases hv1 pb e with q | q
    · exact h.ne q
    · have := fa.size; omega
  have hB2 := hB1.put 0 v1
  have ht2 := ht1.chg (Chg.of_set w1 pb 0 v1) (fun g hg e => hne1 (by rw [hg, e]))
  have hk2 := hk1.trans (Chg.of_set w1 pb 0 v1) (fun b _ e => .inl e)
  obtain ⟨v3, w3, hr3, ht3, hc3, hv3⟩ := run_app_str ht2 hs (by have := hk2.size; omega) (by simp; omega) 22
  have hvb1 : ∀ g, v1.ownBlock = some g → base ≤ g := fun g hg => by
    obtain ⟨g', cap, rfl, hbg, _⟩ := ht1
    simp [Value.ownBlock] at hg
    omega
  have hk3 := hk2.trans hc3 (fun b hlt hb => by
    rcases hv1 b hb with q | q
    · exact .inr q
    · have := fa.size; omega)
  have hB3 := hB2.chg hc3 (fun e => hne1 e)
  have y3 := hB3.cell 0
  simp at y3
  have z3 := hB3.frozen 0
  have hne3 : v3.ownBlock ≠ some pb := fun e => by
    rcases hv3 pb e with q | q
    · exact hne1 q
    · have := hk2.size; omega
  have hB4 := hB3.put 0 v3
  have ht4 := ht3.chg (Chg.of_set w3 pb 0 v3) (fun g hg e => hne3 (by rw [hg, e]))
  have hk4 := hk3.trans (Chg.of_set w3 pb 0 v3) (fun b _ e => .inl e)
  have HV : Hid (∀ g, v3.ownBlock = some g → v.ownBlock = some g ∨ w.heap.size ≤ g) := fun g hg => by
    rcases hv3 g hg with q | q
    · rcases hv1 g q with q' | q'
      · exact .inl q'
      · have := fa.size; exact .inr (by omega)
    · have := hk2.size; exact .inr (by omega)
  have HP : Hid (Prt (w3.setCell ⟨pb, 0, none⟩ v3) pb base v3 (l ++ 32 :: s)) := ⟨hB4, by simpa using ht4, hne3, hbp⟩
  have HK := hidd hk4
  have y2 := hB2.cell 0
  simp at y2
  have z2 := hB2.frozen 0
  obtain ⟨g1, k1, e1, _⟩ := ht1
  obtain ⟨g3, k3, e3, _⟩ := ht3
  obtain ⟨g0, k0, e0, _⟩ := h.txt
  clear h hk1 hk2 hk3 hk4 hB1 hB2 hB3 hB4 ht2 ht4 hc1 hc3 hv1 hv3 hvb hvb1 hne1 hne3 fa
  subst e1 e3 e0
  obtain ⟨n1, en1⟩ : ∃ n1, n1 = (l ++ [32]).length := ⟨_, rfl⟩
  obtain ⟨n3, en3⟩ : ∃ n3, n3 = (l ++ [32] ++ s).length := ⟨_, rfl⟩
  rw [← en1] at hr1 hr3 y2
  rw [← en3] at hr3 HP HK
  clear en1 en3
  go_enter Tryd.func48, Tryd.ntmps48
  go_wp2_with (first | (at_builtin; refine wpList_append_any rfl _ _ 22 22 rfl _ _ rfl rfl _ _ hr1 ?_) | (at_builtin; refine wpList_append_any rfl _ _ 22 9 rfl _ _ rfl rfl _ _ hr3 ?_))
  go_end0
  exact ⟨rfl, _, HP.out, HK.out, HV.out⟩
set_option maxRecDepth 20000 in
theorem pseed_fine {w : World} {pb base : Nat} {v : Value} {l : List Int} {u : Nat} (h : Prt w pb base v l) (hu64 : u < 18446744073709551616) (hE : Env w) (hn : l.length ≤ 1000000) :
    Calls Tryd.prog 80 #[.pointer (some ⟨pb, 0, none⟩), .int .u64 u] w fun e w' => e = .returned (.tuple #[]) ∧ ∃ v', Pst w w' pb base v v' (l ++ 32 :: decL u) := by
  have hz := decL_len u hu64
  have HI := hidd (fuint_any u hu64 hE)
  have HP := hidd (fun (w1 : World) (f1 : Below w.heap.size w w1) => part_fine (h.fresh f1) (s := decL u) (numsU_byt _) (by omega))
  clear h hE hz
  generalize strOfNums (decL u) = s at *
  go_enter Tryd.func80, Tryd.ntmps80
  go_wp2_with (first | (go_at_call 89; with_reducible refine (HI.out).mono ?_; rintro e w1 ⟨rfl, f1⟩) | (go_at_call 48; with_reducible refine (HP.out _ f1).mono ?_; rintro e w2 ⟨rfl, v2, hp2⟩))
  go_end0
  exact ⟨rfl, v2, hp2.pre f1⟩
/-- a literal comes, unless the text is too long already -/
def pl (l b : List Int) : List Int := if 8192 < l.length then l else l ++ 32 :: lit (b.take 8192)
theorem pl_len {l b : List Int} (h : l.length ≤ 100000) : (pl l b).length ≤ 100000 := by
  unfold pl
  split
  · exact h
  · have h1 := pies_len (b.take 8192)
    have h2 := lit_len (b.take 8192)
    have h3 : (b.take 8192).length ≤ 8192 := by rw [List.length_take]; omega
    rw [List.length_append, List.length_cons]
    omega
set_option maxRecDepth 20000 in
set_option maxHeartbeats 1000000 in
theorem plit_fine {w : World} {pb base : Nat} {v : Value} {l b : List Int} (h : Prt w pb base v l) (hb : Byt b) (hn : l.length ≤ 100000) (hbl : b.length ≤ 140737488351232) :
    Calls Tryd.prog 81 #[.pointer (some ⟨pb, 0, none⟩), .string (strOfNums b)] w fun e w' => e = .returned (.tuple #[]) ∧ ∃ v', Pst w w' pb base v v' (pl l b) := by
  have HF := hidd (full_any h)
  by_cases hfu : 8192 < l.length
  · have hd : decide (8192 < l.length) = true := by simp; omega
    rw [hd] at HF
    have HR : Hid (Pst w w pb base v v (pl l b)) := by
      have e : pl l b = l := by unfold pl; rw [if_pos hfu]
      show Pst w w pb base v v (pl l b)
      rw [e]; exact Pst.refl h
    clear h hd
    go_enter Tryd.func81, Tryd.ntmps81
    go_wp2_with (go_at_call 33; with_reducible refine (HF.out).mono ?_; rintro e w0 ⟨rfl, hw0⟩; rw [hw0]; clear hw0)
    refine bodyPost_ret (results_none rfl _ _ _) rfl ?_
    exact ⟨rfl, v, HR.out⟩
  · have hd : decide (8192 < l.length) = false := by simp; omega
    rw [hd] at HF
    have epl : pl l b = l ++ 32 :: lit (b.take 8192) := by unfold pl; rw [if_neg hfu]
    rw [epl]
    have hx := str_ext b 0 (b.take 8192).length
    have hbt := hb.take 8192
    have hmm : (b.take 8192).length = min 8192 b.length := List.length_take
    have e1 : List.drop 0 (b.take (b.take 8192).length) = b.take 8192 := by
      rw [List.drop_zero, hmm]
      by_cases h' : b.length ≤ 8192
      · rw [List.take_of_length_le (by omega), List.take_of_length_le (by omega)]
      · rw [Nat.min_eq_left (by omega)]
    rw [e1] at hx
    have hsz : (strOfNums b).size = b.length := strOfNums_size b
    have hpl := pies_len (b.take 8192)
    have hll := lit_len (b.take 8192)
    have hct : (b.take 8192).length ≤ 8192 := by omega
    have HP := hidd (fun (w1 : World) (f1 : Below w.heap.size w w1) => part_fine (h.fresh f1) (s := lit (b.take 8192)) (lit_byt hbt) (by omega))
    have hsc : (strOfNums (b.take 8192)).size = (b.take 8192).length := strOfNums_size _
    obtain ⟨cc, w1, hcv, hf1, hz1, hc1, hc2, hcl⟩ := conv_bytes w (strOfNums (b.take 8192)) (by rw [hsc]; omega)
    rw [hsc] at hcv hc1 hcl
    rw [str_bys hbt] at hcl
    have HQ := hidd (quote_any (w := w1) (ao := some ⟨w.heap.size, 0, none⟩) (l := b.take 8192) (cap := cc) ⟨hc1, hc2, fun _ => ⟨w.heap.size, 0, rfl, fun j hj => by rw [Nat.zero_add]; exact hcl j (by omega)⟩⟩ hbt (by omega))
    have HF1 := hidd hf1
    obtain ⟨c, hc⟩ : ∃ c, c = b.take 8192 := ⟨_, rfl⟩
    obtain ⟨m, em⟩ : ∃ m, m = (b.take 8192).length := ⟨_, rfl⟩
    obtain ⟨n, en⟩ : ∃ n, n = b.length := ⟨_, rfl⟩
    rw [← em] at hx hmm hcv HQ hct
    rw [← en] at hmm hsz hbl
    rw [← hc] at hx hcv HQ HP ⊢
    have hmin : ∀ ts t w, (Builtin.min_ ts t #[.int .i64 (n : Int), .int .i64 8192]).run Tryd.prog w = .ok (.int .i64 (m : Int)) w := fun ts t w => by
      rw [run_min_int2]
      congr 2
      split <;> omega
    have hmn : m ≤ n := by omega
    clear h hd hpl hll hcl en em hc hf1 hc1 hc2 hmm e1 epl hbt hsc hb
    generalize strOfNums (lit c) = sl at *
    generalize strOfNums c = sc at *
    generalize strOfNums b = s at *
    go_enter Tryd.func81, Tryd.ntmps81
    go_wp2_with (first | (go_at_call 33; with_reducible refine (HF.out).mono ?_; rintro e w0 ⟨rfl, hw0⟩; rw [hw0]; clear hw0) | (go_at_call 9; with_reducible refine (HQ.out).mono ?_; rintro e w2 ⟨rfl, f2⟩; have f12 := fresh_trans HF1.out f2) | (go_at_call 48; with_reducible refine (HP.out _ f12).mono ?_; rintro e w3 ⟨rfl, v3, hp3⟩))
    go_end0
    exact ⟨rfl, v3, hp3.pre f12⟩
end Go.Proofs.YtemmghneohnigaaDoor
namespace Go.Proofs.YtemmghneohnigaaDoor
open Go.RowKit
/-! printAsk. -/
/-- a list of strings, as cells -/
def stc (st : List (List Int)) : Nat → Value := fun j => .string (strOfNums (st.getD j []))
def pAsk (l : List Int) (u : Nat) (g t : List Int) (st : List (List Int)) : List Int := st.foldl pl (pl (pl (l ++ 32 :: decL u) g) t)
theorem fold_take {st : List (List Int)} {k : Nat} (h : k < st.length) (x : List Int) : (st.take (k + 1)).foldl pl x = pl ((st.take k).foldl pl x) (st.getD k []) := by
  rw [List.take_add_one, List.getElem?_eq_getElem h, List.foldl_append, List.getD_eq_getElem?_getD, List.getElem?_eq_getElem h]
  rfl
theorem fold_len (st : List (List Int)) : ∀ {x : List Int}, x.length ≤ 100000 → (st.foldl pl x).length ≤ 100000 := by
  induction st with
  | nil => intro x h; exact h
  | cons a r ih => intro x h; exact ih (pl_len h)
set_option maxRecDepth 20000 in
set_option maxHeartbeats 2000000 in
theorem pask_fine {w0 w : World} {pb base : Nat} {v : Value} {l g t : List Int} {u : Nat} {st : List (List Int)} {wd : ByteArray} {n : Int} {ao : Option Addr} {ac : Nat} {bo : Option Addr} {bm bc : Nat} {co : Option Addr} {cc : Nat}
    (h : Prt w pb base v l) (hn : l.length ≤ 90000) (hu64 : u < 18446744073709551616) (hE : Env w) (hE6 : 6 ≤ base) (hg : Byt g) (hgl : g.length ≤ 140737488351232) (ht : Byt t) (htl : t.length ≤ 140737488351232)
    (hst : ∀ s ∈ st, Byt s ∧ s.length ≤ 140737488351232) (f0 : Below w0.heap.size w0 w) (hz0 : w0.heap.size ≤ base) (hr : RdA w0 ao 1 t.length ac (byc t)) (hs : RdA w0 co 1 st.length cc (stc st)) :
    Calls Tryd.prog 60 #[.pointer (some ⟨pb, 0, none⟩), .agg (lnA wd n ao t.length ac bo bm bc u (strOfNums g) co st.length cc)] w fun e w' => e = .returned (.tuple #[]) ∧ ∃ v', Pst w w' pb base v v' (pAsk l u g t st) := by
  have hlc : st.length ≤ 9223372036854775807 := by have := hs.le; have := hs.top; unfold maxLen at this; omega
  have hdl := decL_len u hu64
  have fa := fresh_alloc w (.cells (lnA wd n ao t.length ac bo bm bc u (strOfNums g) co st.length cc) 38)
  have hB := Blk.new w 38 (lnA wd n ao t.length ac bo bm bc u (strOfNums g) co st.length cc)
  have HSD := hidd (fun (w1 : World) (v1 : Value) (h1 : Prt w1 pb base v1 l) (hE1 : Env w1) => pseed_fine (u := u) h1 hu64 hE1 (by omega))
  have HLG := hidd (fun (w1 : World) (v1 : Value) (h1 : Prt w1 pb base v1 (l ++ 32 :: decL u)) => plit_fine (b := g) h1 hg (by simp; omega) hgl)
  have hl1 : (pl (l ++ 32 :: decL u) g).length ≤ 100000 := pl_len (by simp; omega)
  have hl2 : (pl (pl (l ++ 32 :: decL u) g) t).length ≤ 100000 := pl_len hl1
  have HLT := hidd (fun (w1 : World) (v1 : Value) (h1 : Prt w1 pb base v1 (pl (l ++ 32 :: decL u) g)) => plit_fine (b := t) h1 ht hl1 htl)
  have HLS := hidd (fun (w1 : World) (v1 : Value) (k : Nat) (hk : k < st.length) (h1 : Prt w1 pb base v1 ((st.take k).foldl pl (pl (pl (l ++ 32 :: decL u) g) t))) => plit_fine (b := st.getD k []) h1 (by rw [List.getD_eq_getElem?_getD, List.getElem?_eq_getElem hk]; exact (hst _ (List.getElem_mem _)).1) (fold_len _ hl2) (by rw [List.getD_eq_getElem?_getD, List.getElem?_eq_getElem hk]; exact (hst _ (List.getElem_mem _)).2))
  have HH := hidd h
  have hpw := h.blk.lt
  have hbp := h.bp
  have HOW : Hid (∀ b, v.ownBlock = some b → b < w.heap.size) := fun b hb => by
    obtain ⟨g', cap, e, _, hlt, _⟩ := h.txt
    subst e
    simp [Value.ownBlock] at hb
    omega
  have HE := hidd hE
  have HF0 := hidd f0
  have HR := hidd hr
  have HS := hidd hs
  have HFA := hidd fa
  have HB := hidd hB
  have AFT : Hid (∀ wi vi li, Pst (w.alloc (.cells (lnA wd n ao t.length ac bo bm bc u (strOfNums g) co st.length cc) 38)) wi pb base v vi li → Blk wi w.heap.size 38 (lnA wd n ao t.length ac bo bm bc u (strOfNums g) co st.length cc) ∧ Env wi ∧ Below w0.heap.size w0 wi) := fun wi vi li P => by
    have hco := Pst.coarse (h.fresh fa) P
    refine ⟨hB.chg P.chg (fun q => ?_), (hE.fresh fa).chg hco (fun b hb => by omega), hco.below (fresh_trans f0 fa) (Nat.le_trans f0.size fa.size) (fun x hx => by omega)⟩
    rcases q with q | q
    · omega
    · have := HOW.out _ q; omega
  have HP1 := hidd (Pst.refl (h.fresh fa))
  have HE1 := hidd (hE.fresh fa)
  have hB1 := Blk.new w 38 (lnA wd n ao t.length ac bo bm bc u (strOfNums g) co st.length cc)
  have HFA2 := hidd fa
  clear h hE f0 fa hB hg ht hst hdl hl1 hl2 HH HE HF0 HFA HB hB1 HOW
  go_enter Tryd.func60, Tryd.ntmps60
  go_upto_region 1 with fail
  generalize w.alloc (.cells (lnA wd n ao t.length ac bo bm bc u (strOfNums g) co st.length cc) 38) = w1 at *
  obtain ⟨B, eB⟩ : ∃ B, B = w.heap.size := ⟨_, rfl⟩
  have EB := hidd eB
  rw [← eB] at AFT ⊢
  clear eB
  have q4 := (AFT.out _ _ _ HP1.out).1.cell 4
  simp at q4
  go_upto_region 2 with (go_at_call 80; with_reducible refine (HSD.out _ _ HP1.out.prt HE1.out).mono ?_; rintro e w2 ⟨rfl, v2, p2⟩)
  have HP2 := hidd p2
  have q5 := (AFT.out _ _ _ p2).1.cell 5
  simp at q5
  clear p2 q4
  go_upto_region 3 with (go_at_call 81; with_reducible refine (HLG.out _ _ HP2.out.prt).mono ?_; rintro e w3 ⟨rfl, v3, p3⟩)
  have HP3 := hidd (HP2.out.trans p3)
  have q2 := (AFT.out _ _ _ HP3.out).1.cell 2
  simp at q2
  have hcv := conv_str (HR.out.fresh (AFT.out _ _ _ HP3.out).2.2)
  clear p3 q5
  go_upto_region 4 with (go_at_call 81; with_reducible refine (HLT.out _ _ HP3.out.prt).mono ?_; rintro e w4 ⟨rfl, v4, p4⟩)
  have HP4 := hidd (HP3.out.trans p4)
  have q6 := (AFT.out _ _ _ HP4.out).1.cell 6
  simp at q6
  clear p4 q2 hcv
  have HS4 := hidd (fun wi vi li P => HS.out.fresh (AFT.out wi vi li P).2.2)
  obtain ⟨m, em⟩ : ∃ m, m = st.length := ⟨_, rfl⟩
  have EM := hidd em
  rw [← em] at q6 hlc HS4 HLS
  clear em hr hs HR HS HSD HLG HLT HP1 HP2 HP3 HE1 AFT
  go_wp2
  go_loopw [22] (fun i wr => ∃ k : Nat, k ≤ m ∧ i = .int .i64 k ∧ Hid (∃ vr, Pst w1 wr pb base v vr ((st.take k).foldl pl (pl (pl (l ++ 32 :: decL u) g) t)))) (fun i _ => m - (intOf i).toNat)
  case atStart => exact ⟨0, by omega, rfl, ⟨v4, HP4.out⟩⟩
  case round =>
    obtain ⟨k, hk, rfl, hI⟩ := hrel
    obtain ⟨vr, P⟩ := hI.out
    have HPr := hidd P
    have j0 : (0 : Int) ≤ (k : Int) := Int.natCast_nonneg _
    by_cases hlt : k < m
    · obtain ⟨b1, o1, rfl, h1⟩ := (HS4.out _ _ _ P).one (by omega)
      have c1 := h1 k hlt
      unfold stc at c1
      have HC := hidd (HLS.out _ _ k hlt P.prt)
      generalize strOfNums (st.getD k []) = sk at *
      clear h1 P hI
      go_wp2_with (go_at_call 81; with_reducible refine (HC.out).mono ?_; rintro e w5 ⟨rfl, v5, p5⟩)
      go_roundw
      case rel => exact ⟨k + 1, by omega, by go_num, ⟨v5, by rw [fold_take (by rw [← EM.out]; exact hlt)]; exact HPr.out.trans p5⟩⟩
      case measure => simp [intOf]; omega
    · obtain rfl : k = m := by omega
      rw [EM.out, List.take_length] at P
      have HL := hidd P
      clear P hI HPr
      go_wp2
      go_end0
      exact ⟨rfl, vr, HL.out.pre HFA2.out⟩
end Go.Proofs.YtemmghneohnigaaDoor
namespace Go.Proofs.YtemmghneohnigaaDoor
open Go.RowKit
/-! printText of any line; the head of a line. -/
set_option maxRecDepth 20000 in
set_option maxHeartbeats 1000000 in
theorem ptext_gen {w : World} {pb base : Nat} {v : Value} {l t : List Int} {wd gd : ByteArray} {n sd : Int} {ao : Option Addr} {ac : Nat} {bo : Option Addr} {bm bc : Nat} {co : Option Addr} {cm cc : Nat} (h : Prt w pb base v l) (ht : Byt t) (hn : l.length ≤ 100000) (htl : t.length ≤ 140737488351232) (hr : RdA w ao 1 t.length ac (byc t)) :
    Calls Tryd.prog 66 #[.pointer (some ⟨pb, 0, none⟩), .agg (lnA wd n ao t.length ac bo bm bc sd gd co cm cc)] w fun e w' => e = .returned (.tuple #[]) ∧ ∃ v', Pst w w' pb base v v' (pl l t) := by
  have fa := fresh_alloc w (.cells (lnA wd n ao t.length ac bo bm bc sd gd co cm cc) 38)
  have hcv := conv_str (hr.fresh fa)
  have HP := hidd (plit_fine (h.fresh fa) ht hn htl)
  have HF := hidd fa
  clear h hr fa
  generalize strOfNums t = s at *
  generalize t.length = m at *
  go_enter Tryd.func66, Tryd.ntmps66
  go_wp2_with (go_at_call 81; with_reducible refine (HP.out).mono ?_; rintro e w2 ⟨rfl, v2, p2⟩)
  go_end0
  exact ⟨rfl, v2, p2.pre HF.out⟩
/-- what Print answers with this text -/
def PrR (l : List Int) (e : Ending) : Prop := (8192 < l.length ∧ e = .returned (.tuple #[.string ⟨#[]⟩, .int .i64 220])) ∨ (¬ 8192 < l.length ∧ e = .returned (.tuple #[.string (strOfNums l), .int .i64 0]))
/-- a number more -/
def pn (l : List Int) (x : Int) : List Int := l ++ 32 :: numL x
def hdL (k : Nat) (n : Int) (nums : List Int) : List Int := nums.foldl pn (wNm k ++ 32 :: numL n)
theorem foldn_take {st : List Int} {k : Nat} (h : k < st.length) (x : List Int) : (st.take (k + 1)).foldl pn x = (st.take k).foldl pn x ++ 32 :: numL (st.getD k 0) := by
  rw [List.take_add_one, List.getElem?_eq_getElem h, List.foldl_append, List.getD_eq_getElem?_getD, List.getElem?_eq_getElem h]
  rfl
theorem numL_len {n : Int} (h0 : -9223372036854775808 ≤ n) (h1 : n ≤ 9223372036854775807) : (numL n).length ≤ 21 := by unfold numL numsU; have := Lib.itoa_length_le n h0 h1; simpa using this
theorem foldn_len : ∀ (st : List Int), (∀ x ∈ st, -9223372036854775808 ≤ x ∧ x ≤ 9223372036854775807) → ∀ x : List Int, (st.foldl pn x).length ≤ x.length + 22 * st.length
  | [], _, x => by simp
  | a :: r, h, x => by
    have h1 := foldn_len r (fun y hy => h y (by simp [hy])) (pn x a)
    have h2 := numL_len (h a (by simp)).1 (h a (by simp)).2
    have h3 : (pn x a).length = x.length + (numL a).length + 1 := by unfold pn; simp; omega
    simp only [List.foldl_cons, List.length_cons]
    omega
theorem nm_byt {k : Nat} (hk : k < 6) : Byt (wNm k) ∧ (wNm k).length ≤ 6 := by
  match k, hk with
  | 0, _ => exact ⟨(by decide : ∀ x ∈ wNm 0, 0 ≤ x ∧ x ≤ 255), by decide⟩
  | 1, _ => exact ⟨(by decide : ∀ x ∈ wNm 1, 0 ≤ x ∧ x ≤ 255), by decide⟩
  | 2, _ => exact ⟨(by decide : ∀ x ∈ wNm 2, 0 ≤ x ∧ x ≤ 255), by decide⟩
  | 3, _ => exact ⟨(by decide : ∀ x ∈ wNm 3, 0 ≤ x ∧ x ≤ 255), by decide⟩
  | 4, _ => exact ⟨(by decide : ∀ x ∈ wNm 4, 0 ≤ x ∧ x ≤ 255), by decide⟩
  | 5, _ => exact ⟨(by decide : ∀ x ∈ wNm 5, 0 ≤ x ∧ x ≤ 255), by decide⟩
end Go.Proofs.YtemmghneohnigaaDoor
