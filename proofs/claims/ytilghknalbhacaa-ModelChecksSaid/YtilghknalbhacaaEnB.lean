import Derived.Test.YtilghknalbhacaaJAB
namespace Go.Proofs.Ytilghknalbhacaa
open Go.RowKit
/-! Bytes appended: numbers, narrow lists, sections; digests. -/
theorem App.of {w w1 : World} (f : Below w.heap.size w w1) (v : Value) : App w w1 v v := ⟨⟨f.os, f.tape, f.output, f.size, fun k hk _ => f.block k hk⟩, fun _ hk => .inl hk⟩
theorem App.trans {w w1 w2 : World} {v v1 v2 : Value} (h : App w w1 v v1) (k : App w1 w2 v1 v2) : App w w2 v v2 := by
  refine ⟨⟨k.grown.os.trans h.grown.os, k.grown.tape.trans h.grown.tape, k.grown.output.trans h.grown.output, Nat.le_trans h.grown.size k.grown.size, fun z hz hne => ?_⟩, fun z hz => ?_⟩
  · have := h.grown.size
    rw [k.grown.block z (by omega) (fun e => ?_), h.grown.block z hz hne]
    rcases h.blk z e.symm with e1 | e1
    · exact hne e1.symm
    · omega
  · rcases k.blk z hz with e1 | e1
    · exact h.blk z e1
    · have := h.grown.size
      exact .inr (by omega)
theorem App.off_kept {w w' : World} {v v' u : Value} (h : App w w' v v') {base : Nat} {e : TypeId} {sz n : Nat} {cs : Nat → Value} (ho : Own w base e sz u n cs) (ha : Off v u) : Own w' base e sz u n cs ∧ Off v' u := ⟨h.own ho ha, h.off ho ha⟩
theorem App.rd {w w' : World} {v v' : Value} (h : App w w' v v') {ao : Option Addr} {sz n cap : Nat} {cs : Nat → Value} (k : RdA w ao sz n cap cs) (ha : 0 < n → ∀ b off, ao = some ⟨b, off, none⟩ → v.ownBlock ≠ some b) : RdA w' ao sz n cap cs :=
  ⟨k.le, k.top, fun h0 => by
    obtain ⟨b, off, e, hc⟩ := k.at_ h0
    refine ⟨b, off, e, fun j hj => ?_⟩
    have h1 := hc j hj
    rw [World.cell?_of_block (w := w) (h.grown.block b (lt_of_cell h1) (fun q => ha h0 b off e q.symm))]
    exact h1⟩
set_option maxRecDepth 20000 in
set_option maxHeartbeats 4000000 in
theorem little_any {w : World} {b0 : Nat} {v : Value} {L : List Int} (hv : OwB w b0 v L) (hb : b0 ≤ w.heap.size) (hL : L.length ≤ 1073741824) {n : Nat} (hn : n < 18446744073709551616) {k : Nat} (hk : k ≤ 1024) :
    Calls Try.prog 62 #[v, .int .u64 (n : Int), .int .i64 (k : Int)] w fun e w' => ∃ v', e = .returned v' ∧ OwB w' b0 v' (L ++ num n k) ∧ App w w' v v' := by
  have HV := hidd hv
  obtain ⟨p, uc, rfl, _⟩ := hv.rd
  clear hv
  go_enter Try.func62, Try.ntmps62
  go_wp2
  go_loopw [0, 1, 8] (fun v1 n1 i wr => ∃ i' : Nat, i' ≤ k ∧ n1 = .int .u64 ((n / 256 ^ i' : Nat) : Int) ∧ i = .int .i64 (i' : Int) ∧ Hid (Own wr b0 5 1 v1 (L.length + i') (bV (L ++ num n k))) ∧ Hid (App w wr (.slice p L.length uc) v1)) (fun v1 n1 i _ => k - (intOf i).toNat)
  case atStart => exact ⟨0, Nat.zero_le _, by simp, by simp, HV.out.congr (fun j hj => bV_pre L (num n k) (by omega)), App.of (Below.refl _ _) _⟩
  case round =>
    obtain ⟨i, hi, rfl, rfl, HO, HA⟩ := hrel
    obtain ⟨p1, uc1, rfl, _⟩ := HO.out.rd
    obtain ⟨m, hm⟩ : ∃ m, m = n / 256 ^ i := ⟨_, rfl⟩
    have HM := hidd hm
    rw [← hm]
    have hml : m < 18446744073709551616 := by rw [hm]; exact Nat.lt_of_le_of_lt (Nat.div_le_self _ _) hn
    clear hm
    by_cases hlt : i < k
    · have i1 : (i : Int) < (k : Int) := by omega
      have HE : Hid (bV (L ++ num n k) (L.length + i) = .int .u8 ((m % 256 : Nat) : Int)) := by show _ = _; rw [bV_suf, num_at hlt, HM.out]
      have fa := fresh_alloc wr (.cells #[.int .u8 ((m : Int) % 256)] 5)
      have HN : Hid ((wr.alloc (.cells #[.int .u8 ((m : Int) % 256)] 5)).cell? ⟨wr.heap.size, 0, none⟩ = some (bV (L ++ num n k) (L.length + i))) := by show _ = _; rw [new_cell, HE.out]; rfl
      have HO2 := hidd (HO.out.kept fa)
      have HA2 := hidd (HA.out.trans (App.of fa _))
      have hsz : b0 ≤ (wr.alloc (.cells #[.int .u8 ((m : Int) % 256)] 5)).heap.size := Nat.le_trans hb (Nat.le_trans HA.out.grown.size fa.size)
      have HSZ := hidd hsz
      clear hsz fa HE
      go_wp2_with (at_builtin; refine wpList_app1 _ rfl _ _ 35 rfl b0 5 (.int .u8 0) 1 Try.underlying35 infoU8 rfl _ (L.length + i) (bV (L ++ num n k)) rfl HO2.out wr.heap.size 1 rfl HN.out rfl (by omega) (by omega) HSZ.out ?_)
      rintro v' w4 hown happ
      have HO4 := hidd hown
      have HA4 := hidd (HA2.out.trans happ)
      clear hown happ HN HO2 HA2 HSZ
      go_wp2
      go_roundw
      case rel => exact ⟨i + 1, by omega, by rw [← num_next, ← HM.out]; first | rfl | simp, by go_num, HO4.out, HA4.out⟩
      case measure => simp [intOf]; omega
    · obtain rfl : k = i := by omega
      have hnl : ¬ ((k : Int) < (k : Int)) := by omega
      go_wp2
      go_ret
      exact ⟨_, rfl, by have h9 := HO.out; unfold OwB; rw [List.length_append, num_len]; exact h9, HA.out⟩
set_option maxRecDepth 20000 in
set_option maxHeartbeats 4000000 in
theorem addnum_any {w : World} {b0 : Nat} {v : Value} {L : List Int} (hv : OwB w b0 v L) (hb : b0 ≤ w.heap.size) (hL : L.length ≤ 1073741824) {n : Nat} (hn : n < 18446744073709551616) {k : Nat} (hk : k ≤ 1024) :
    Calls Try.prog 83 #[v, .int .u64 (n : Int), .int .i64 (k : Int)] w fun e w' => ∃ v', e = .returned v' ∧ OwB w' b0 v' (L ++ num n k) ∧ App w w' v v' := by
  have HV := hidd hv
  obtain ⟨p, uc, rfl, _⟩ := hv.rd
  clear hv
  go_enter Try.func83, Try.ntmps83
  go_wp2
  go_loopw [0, 1, 7] (fun v1 n1 i wr => ∃ i' : Nat, i' ≤ k ∧ n1 = .int .u64 ((n / 256 ^ i' : Nat) : Int) ∧ i = .int .i64 (i' : Int) ∧ Hid (Own wr b0 5 1 v1 (L.length + i') (bV (L ++ num n k))) ∧ Hid (App w wr (.slice p L.length uc) v1)) (fun v1 n1 i _ => k - (intOf i).toNat)
  case atStart => exact ⟨0, Nat.zero_le _, by simp, by simp, HV.out.congr (fun j hj => bV_pre L (num n k) (by omega)), App.of (Below.refl _ _) _⟩
  case round =>
    obtain ⟨i, hi, rfl, rfl, HO, HA⟩ := hrel
    obtain ⟨p1, uc1, rfl, _⟩ := HO.out.rd
    obtain ⟨m, hm⟩ : ∃ m, m = n / 256 ^ i := ⟨_, rfl⟩
    have HM := hidd hm
    rw [← hm]
    have hml : m < 18446744073709551616 := by rw [hm]; exact Nat.lt_of_le_of_lt (Nat.div_le_self _ _) hn
    clear hm
    by_cases hlt : i < k
    · have i1 : (i : Int) < (k : Int) := by omega
      have HE : Hid (bV (L ++ num n k) (L.length + i) = .int .u8 ((m % 256 : Nat) : Int)) := by show _ = _; rw [bV_suf, num_at hlt, HM.out]
      have fa := fresh_alloc wr (.cells #[.int .u8 ((m : Int) % 256)] 5)
      have HN : Hid ((wr.alloc (.cells #[.int .u8 ((m : Int) % 256)] 5)).cell? ⟨wr.heap.size, 0, none⟩ = some (bV (L ++ num n k) (L.length + i))) := by show _ = _; rw [new_cell, HE.out]; rfl
      have HO2 := hidd (HO.out.kept fa)
      have HA2 := hidd (HA.out.trans (App.of fa _))
      have hsz : b0 ≤ (wr.alloc (.cells #[.int .u8 ((m : Int) % 256)] 5)).heap.size := Nat.le_trans hb (Nat.le_trans HA.out.grown.size fa.size)
      have HSZ := hidd hsz
      clear hsz fa HE
      go_wp2_with (at_builtin; refine wpList_app1 _ rfl _ _ 35 rfl b0 5 (.int .u8 0) 1 Try.underlying35 infoU8 rfl _ (L.length + i) (bV (L ++ num n k)) rfl HO2.out wr.heap.size 1 rfl HN.out rfl (by omega) (by omega) HSZ.out ?_)
      rintro v' w4 hown happ
      have HO4 := hidd hown
      have HA4 := hidd (HA2.out.trans happ)
      clear hown happ HN HO2 HA2 HSZ
      go_wp2
      go_roundw
      case rel => exact ⟨i + 1, by omega, by rw [← num_next, ← HM.out]; first | rfl | simp, by go_num, HO4.out, HA4.out⟩
      case measure => simp [intOf]; omega
    · obtain rfl : k = i := by omega
      have hnl : ¬ ((k : Int) < (k : Int)) := by omega
      go_wp2
      go_ret
      exact ⟨_, rfl, by have h9 := HO.out; unfold OwB; rw [List.length_append, num_len]; exact h9, HA.out⟩
set_option maxRecDepth 20000 in
set_option maxHeartbeats 4000000 in
theorem narB_any {w : World} {b0 : Nat} {v : Value} {L : List Int} (hv : OwB w b0 v L) (hb : b0 ≤ w.heap.size) (hL : L.length ≤ 1073741824) {ao : Option Addr} {n cap : Nat} {f : Nat → Int} (hr : RdA w ao 1 n cap (fun i => .int .i8 (f i))) (hn : n ≤ 1048576) (ha : 0 < n → ∀ b off, ao = some ⟨b, off, none⟩ → v.ownBlock ≠ some b) (hf : ∀ i, i < n → -128 ≤ f i ∧ f i ≤ 127) :
    Calls Try.prog 31 #[v, .slice ao n cap] w fun e w' => ∃ v', e = .returned v' ∧ OwB w' b0 v' (L ++ nbL f n) ∧ App w w' v v' := by
  have HV := hidd hv
  have HR := hidd hr
  have HF := hidd hf
  have hrl := hr.le
  have hrt := hr.top
  unfold maxLen at hrt
  obtain ⟨p, uc, rfl, _⟩ := hv.rd
  have HAO := hidd ha
  clear hv hr ha hf
  go_enter Try.func31, Try.ntmps31
  go_wp2
  go_loopw [0, 6, 9] (fun v1 _ i wr => ∃ i' : Nat, i' ≤ n ∧ i = .int .i64 (i' : Int) ∧ Hid (Own wr b0 5 1 v1 (L.length + i') (bV (L ++ nbL f n))) ∧ Hid (App w wr (.slice p L.length uc) v1)) (fun v1 _ i _ => n - (intOf i).toNat)
  case atStart => exact ⟨0, Nat.zero_le _, by simp, HV.out.congr (fun j hj => bV_pre L (nbL f n) (by omega)), App.of (Below.refl _ _) _⟩
  case round =>
    obtain ⟨i, hi, rfl, HO, HA⟩ := hrel
    obtain ⟨p1, uc1, rfl, _⟩ := HO.out.rd
    by_cases hlt : i < n
    · have i0 : (0 : Int) ≤ (i : Int) := by omega
      have i1 : (i : Int) < (n : Int) := by omega
      obtain ⟨b1, o1, rfl, hc⟩ := (HA.out.rd HR.out HAO.out).one (by omega)
      have ci := hc i hlt
      have bi := HF.out i hlt
      have HE : Hid (bV (L ++ nbL f n) (L.length + i) = .int .u8 (f i % 256)) := by show _ = _; rw [bV_suf, nbL_at hlt]
      have fa := fresh_alloc wr (.cells #[.int .u8 (f i % 256)] 5)
      have HN : Hid ((wr.alloc (.cells #[.int .u8 (f i % 256)] 5)).cell? ⟨wr.heap.size, 0, none⟩ = some (bV (L ++ nbL f n) (L.length + i))) := by show _ = _; rw [new_cell, HE.out]
      have HO2 := hidd (HO.out.kept fa)
      have HA2 := hidd (HA.out.trans (App.of fa _))
      have hsz : b0 ≤ (wr.alloc (.cells #[.int .u8 (f i % 256)] 5)).heap.size := Nat.le_trans hb (Nat.le_trans HA.out.grown.size fa.size)
      have HSZ := hidd hsz
      clear hsz fa HE hc
      go_wp2_with (at_builtin; refine wpList_app1 _ rfl _ _ 35 rfl b0 5 (.int .u8 0) 1 Try.underlying35 infoU8 rfl _ (L.length + i) (bV (L ++ nbL f n)) rfl HO2.out wr.heap.size 1 rfl HN.out rfl (by omega) (by omega) HSZ.out ?_)
      rintro v' w4 hown happ
      have HO4 := hidd hown
      have HA4 := hidd (HA2.out.trans happ)
      clear hown happ HN HO2 HA2 HSZ ci bi
      go_wp2
      go_roundw
      case rel => exact ⟨i + 1, by omega, by go_num, HO4.out, HA4.out⟩
      case measure => simp [intOf]; omega
    · obtain rfl : i = n := by omega
      have hnl : ¬ ((i : Int) < (i : Int)) := by omega
      go_wp2
      go_ret
      exact ⟨_, rfl, by have h9 := HO.out; unfold OwB; rw [List.length_append, nbL_len]; exact h9, HA.out⟩
set_option maxRecDepth 20000 in
set_option maxHeartbeats 4000000 in
theorem addN_any {w : World} {b0 : Nat} {v : Value} {L : List Int} (hv : OwB w b0 v L) (hb : b0 ≤ w.heap.size) (hL : L.length ≤ 1073741824) {ao : Option Addr} {n cap : Nat} {f : Nat → Int} (hr : RdA w ao 1 n cap (fun i => .int .i8 (f i))) (hn : n ≤ 1048576) (ha : 0 < n → ∀ b off, ao = some ⟨b, off, none⟩ → v.ownBlock ≠ some b) (hf : ∀ i, i < n → -128 ≤ f i ∧ f i ≤ 127) :
    Calls Try.prog 79 #[v, .slice ao n cap] w fun e w' => ∃ v', e = .returned v' ∧ OwB w' b0 v' (L ++ nbL f n) ∧ App w w' v v' := by
  have HV := hidd hv
  have HR := hidd hr
  have HF := hidd hf
  have hrl := hr.le
  have hrt := hr.top
  unfold maxLen at hrt
  obtain ⟨p, uc, rfl, _⟩ := hv.rd
  have HAO := hidd ha
  clear hv hr ha hf
  go_enter Try.func79, Try.ntmps79
  go_wp2
  go_loopw [0, 5] (fun v1 i wr => ∃ i' : Nat, i' ≤ n ∧ i = .int .i64 (i' : Int) ∧ Hid (Own wr b0 5 1 v1 (L.length + i') (bV (L ++ nbL f n))) ∧ Hid (App w wr (.slice p L.length uc) v1)) (fun v1 i _ => n - (intOf i).toNat)
  case atStart => exact ⟨0, Nat.zero_le _, by simp, HV.out.congr (fun j hj => bV_pre L (nbL f n) (by omega)), App.of (Below.refl _ _) _⟩
  case round =>
    obtain ⟨i, hi, rfl, HO, HA⟩ := hrel
    obtain ⟨p1, uc1, rfl, _⟩ := HO.out.rd
    by_cases hlt : i < n
    · have i0 : (0 : Int) ≤ (i : Int) := by omega
      have i1 : (i : Int) < (n : Int) := by omega
      obtain ⟨b1, o1, rfl, hc⟩ := (HA.out.rd HR.out HAO.out).one (by omega)
      have ci := hc i hlt
      have bi := HF.out i hlt
      have HE : Hid (bV (L ++ nbL f n) (L.length + i) = .int .u8 (f i % 256)) := by show _ = _; rw [bV_suf, nbL_at hlt]
      have fa := fresh_alloc wr (.cells #[.int .u8 (f i % 256)] 5)
      have HN : Hid ((wr.alloc (.cells #[.int .u8 (f i % 256)] 5)).cell? ⟨wr.heap.size, 0, none⟩ = some (bV (L ++ nbL f n) (L.length + i))) := by show _ = _; rw [new_cell, HE.out]
      have HO2 := hidd (HO.out.kept fa)
      have HA2 := hidd (HA.out.trans (App.of fa _))
      have hsz : b0 ≤ (wr.alloc (.cells #[.int .u8 (f i % 256)] 5)).heap.size := Nat.le_trans hb (Nat.le_trans HA.out.grown.size fa.size)
      have HSZ := hidd hsz
      clear hsz fa HE hc
      go_wp2_with (at_builtin; refine wpList_app1 _ rfl _ _ 35 rfl b0 5 (.int .u8 0) 1 Try.underlying35 infoU8 rfl _ (L.length + i) (bV (L ++ nbL f n)) rfl HO2.out wr.heap.size 1 rfl HN.out rfl (by omega) (by omega) HSZ.out ?_)
      rintro v' w4 hown happ
      have HO4 := hidd hown
      have HA4 := hidd (HA2.out.trans happ)
      clear hown happ HN HO2 HA2 HSZ ci bi
      go_wp2
      go_roundw
      case rel => exact ⟨i + 1, by omega, by go_num, HO4.out, HA4.out⟩
      case measure => simp [intOf]; omega
    · obtain rfl : i = n := by omega
      have hnl : ¬ ((i : Int) < (i : Int)) := by omega
      go_wp2
      go_ret
      exact ⟨_, rfl, by have h9 := HO.out; unfold OwB; rw [List.length_append, nbL_len]; exact h9, HA.out⟩
set_option maxRecDepth 20000 in
set_option maxHeartbeats 4000000 in
theorem digest_any {w : World} {ao : Option Addr} {cap : Nat} {L : List Int} (hr : RdA w ao 1 L.length cap (bV L)) (hb : Byt L) :
    Calls Try.prog 64 #[.slice ao L.length cap] w fun e w' => e = .returned (.int .u64 (dgF L L.length : Nat)) ∧ w' = w := by
  have HR := hidd hr
  have hrl := hr.le
  have hrt := hr.top
  unfold maxLen at hrt
  clear hr
  go_enter Try.func64, Try.ntmps64
  go_wp2
  go_loop [3, 5, 8] (fun h1 _ i => ∃ i' : Nat, i' ≤ L.length ∧ i = .int .i64 (i' : Int) ∧ h1 = .int .u64 (dgF L i' : Nat)) (fun h1 _ i => L.length - (intOf i).toNat)
  case atStart => exact ⟨0, Nat.zero_le _, by simp, rfl⟩
  case round =>
    obtain ⟨i, hi, rfl, rfl⟩ := hrel
    by_cases hlt : i < L.length
    · have i0 : (0 : Int) ≤ (i : Int) := by omega
      have i1 : (i : Int) < (L.length : Int) := by omega
      obtain ⟨b1, o1, rfl, hc⟩ := HR.out.one (by omega)
      have ci := hc i hlt
      obtain ⟨hb1, hb2⟩ := hb.at_ i
      obtain ⟨y, hy⟩ := Int.eq_ofNat_of_zero_le hb1
      have HY := hidd hy
      have hyl : y < 256 := by omega
      unfold bV at ci
      rw [hy] at ci
      obtain ⟨d, hd⟩ : ∃ d, d = dgF L i := ⟨_, rfl⟩
      have hdl : d < 18446744073709551616 := by rw [hd]; exact dgF_lt L i
      have HD := hidd hd
      rw [← hd]
      have hx := u64_xor_nat d y hdl (by omega)
      have hxl : d ^^^ y < 18446744073709551616 := Nat.xor_lt_two_pow (n := 64) hdl (by omega)
      have HX : Hid (IntKind.u64.wrap (((d ^^^ y : Nat) : Int) * 1099511628211) = (dgF L (i + 1) : Nat)) := by
        show _ = _
        have e9 : (L.getD i 0).toNat = y := by rw [HY.out]; rfl
        have e8 : dgF L (i + 1) = ((dgF L i) ^^^ (L.getD i 0).toNat) * 1099511628211 % 18446744073709551616 := rfl
        rw [e8, ← HD.out, e9, IntKind.wrap_u64]
        omega
      generalize d ^^^ y = z at *
      have hzz := HX.out
      clear hc hy hd hb1 hb2 HX
      go_wp2
      go_round
      case rel => exact ⟨i + 1, by omega, by go_num, by first | rfl | (rw [← hzz]) | (simp [hzz])⟩
      case measure => simp [intOf]; omega
    · obtain rfl : i = L.length := by omega
      have hnl : ¬ ((L.length : Int) < (L.length : Int)) := by omega
      go_wp2
      go_ret
      exact ⟨rfl, rfl⟩
set_option maxRecDepth 20000 in
set_option maxHeartbeats 4000000 in
theorem digestR_any {w : World} {ao : Option Addr} {cap : Nat} {L : List Int} (hr : RdA w ao 1 L.length cap (bV L)) (hb : Byt L) :
    Calls Try.prog 82 #[.slice ao L.length cap] w fun e w' => e = .returned (.int .u64 (dgF L L.length : Nat)) ∧ w' = w := by
  have HR := hidd hr
  have hrl := hr.le
  have hrt := hr.top
  unfold maxLen at hrt
  clear hr
  go_enter Try.func82, Try.ntmps82
  go_wp2
  go_loop [3, 4] (fun h1 i => ∃ i' : Nat, i' ≤ L.length ∧ i = .int .i64 (i' : Int) ∧ h1 = .int .u64 (dgF L i' : Nat)) (fun h1 i => L.length - (intOf i).toNat)
  case atStart => exact ⟨0, Nat.zero_le _, by simp, rfl⟩
  case round =>
    obtain ⟨i, hi, rfl, rfl⟩ := hrel
    by_cases hlt : i < L.length
    · have i0 : (0 : Int) ≤ (i : Int) := by omega
      have i1 : (i : Int) < (L.length : Int) := by omega
      obtain ⟨b1, o1, rfl, hc⟩ := HR.out.one (by omega)
      have ci := hc i hlt
      obtain ⟨hb1, hb2⟩ := hb.at_ i
      obtain ⟨y, hy⟩ := Int.eq_ofNat_of_zero_le hb1
      have HY := hidd hy
      have hyl : y < 256 := by omega
      unfold bV at ci
      rw [hy] at ci
      obtain ⟨d, hd⟩ : ∃ d, d = dgF L i := ⟨_, rfl⟩
      have hdl : d < 18446744073709551616 := by rw [hd]; exact dgF_lt L i
      have HD := hidd hd
      rw [← hd]
      have hx := u64_xor_nat d y hdl (by omega)
      have hxl : d ^^^ y < 18446744073709551616 := Nat.xor_lt_two_pow (n := 64) hdl (by omega)
      have HX : Hid (IntKind.u64.wrap (((d ^^^ y : Nat) : Int) * 1099511628211) = (dgF L (i + 1) : Nat)) := by
        show _ = _
        have e9 : (L.getD i 0).toNat = y := by rw [HY.out]; rfl
        have e8 : dgF L (i + 1) = ((dgF L i) ^^^ (L.getD i 0).toNat) * 1099511628211 % 18446744073709551616 := rfl
        rw [e8, ← HD.out, e9, IntKind.wrap_u64]
        omega
      generalize d ^^^ y = z at *
      have hzz := HX.out
      clear hc hy hd hb1 hb2 HX
      go_wp2
      go_round
      case rel => exact ⟨i + 1, by omega, by go_num, by first | rfl | (rw [← hzz]) | (simp [hzz])⟩
      case measure => simp [intOf]; omega
    · obtain rfl : i = L.length := by omega
      have hnl : ¬ ((L.length : Int) < (L.length : Int)) := by omega
      go_wp2
      go_ret
      exact ⟨rfl, rfl⟩
end Go.Proofs.Ytilghknalbhacaa
