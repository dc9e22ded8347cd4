import Derived.Test.YtlbmgknlbhakoabTxX
namespace Go.Proofs.Ytlbmgknlbhakoab
open Go.RowKit
/-! Does a stop string stand in the bytes? -/
theorem bys_str (s : ByteArray) : (strOfNums (bys s)).toList = s.toList := by
  rw [ByteArray.toList_eq, ByteArray.toList_eq, strOfNums_data]
  unfold bys
  rw [List.map_map]
  conv => rhs; rw [← List.map_id s.data.toList]
  congr 1
  funext b
  simp
theorem str_eqs {a : List Int} (ha : Byt a) (s : ByteArray) : ((strOfNums a).toList == s.toList) = decide (a = bys s) := by
  rw [← bys_str s, str_eq ha (bys_byt s)]
theorem RdA.mid {w : World} {ao : Option Addr} {k n cap : Nat} {l : List Int} (h : RdA w ao 1 l.length cap (fun j => .int .u8 (l.getD j 0))) (hn : k + n ≤ l.length) {b off : Nat} (e : ao = some ⟨b, off, none⟩) : RdA w (some ⟨b, off + k, none⟩) 1 ((l.drop k).take n).length (cap - k) (fun j => .int .u8 (((l.drop k).take n).getD j 0)) := by
  subst e
  have hle := h.le
  have htop := h.top
  have hlen : ((l.drop k).take n).length = n := by rw [List.length_take, List.length_drop]; omega
  refine ⟨by rw [hlen]; omega, by omega, fun h0 => ⟨b, off + k, rfl, fun j hj => ?_⟩⟩
  rw [hlen] at hj
  obtain ⟨b', o', e', hc⟩ := h.one (by omega)
  cases e'
  have hj' : j < n := by omega
  have e3 : ((l.drop k).take n).getD j 0 = l.getD (k + j) 0 := by simp [List.getD_eq_getElem?_getD, hj']
  rw [show off + k + j = off + (k + j) by omega, hc (k + j) (by omega), e3]
theorem mid_inf {l s : List Int} {k : Nat} (h : (l.drop k).take s.length = s) : s <:+: l := by
  rw [← h]
  exact (List.take_prefix _ _).isInfix.trans (List.drop_suffix _ _).isInfix
set_option maxRecDepth 100000 in
set_option maxHeartbeats 4000000 in
theorem has_no {w : World} {ao so : Option Addr} {ca cs : Nat} {l : List Int} {sb : List ByteArray} (hl : RdA w ao 1 l.length ca (fun j => .int .u8 (l.getD j 0))) (bl : Byt l) (hs : RdA w so 1 sb.length cs (fun i => .string (sb.getD i ByteArray.empty))) (h16 : ∀ i, i < sb.length → 1 ≤ (sb.getD i ByteArray.empty).size ∧ (sb.getD i ByteArray.empty).size ≤ 16) (hno : ∀ i, i < sb.length → ¬ bys (sb.getD i ByteArray.empty) <:+: l) (h40 : l.length ≤ 1099511627776) (h4 : sb.length ≤ 4) :
    Calls Try.prog 16 #[.slice ao l.length ca, .slice so sb.length cs] w fun e w' => e = .returned (.bool false) ∧ Below w.heap.size w w' := by
  have hlc := hl.le
  have hlt := hl.top
  unfold maxLen at hlt
  have HL := hidd hl
  have HB := hidd bl
  have HS := hidd hs
  have HNO := hidd hno
  have H16 := hidd h16
  obtain ⟨M, eM⟩ : ∃ M, M = l.length := ⟨_, rfl⟩
  obtain ⟨N, eN⟩ : ∃ N, N = sb.length := ⟨_, rfl⟩
  rw [← eM] at hlc h40 ⊢
  rw [← eN] at h4 ⊢
  have EM := hidd eM
  have EN := hidd eN
  clear hl bl hs hno h16 eM eN
  go_enter Try.func16, Try.ntmps16
  go_wp2
  go_loopw [5] (fun i wr => ∃ k : Nat, k ≤ N ∧ i = .int .i64 k ∧ Below w.heap.size w wr) (fun i _ => N - (intOf i).toNat)
  case atStart => exact ⟨0, Nat.zero_le _, rfl, Below.refl _ _⟩
  case round =>
    obtain ⟨i, hi, rfl, hf⟩ := hrel
    by_cases hiN : i < N
    · have hiS : i < sb.length := by have := EN.out; omega
      obtain ⟨bs, os, rfl, hcs⟩ := HS.out.one (by omega)
      have c0 := hcs i hiS
      have hsz := H16.out i hiS
      have hnn := HNO.out i hiS
      obtain ⟨s, es⟩ : ∃ s, s = sb.getD i ByteArray.empty := ⟨_, rfl⟩
      rw [← es] at c0 hsz hnn
      have HNN := hidd hnn
      have HC0 := hidd c0
      clear es hcs hnn c0
      go_wp2
      go_loopw [6] (fun kv wr => ∃ k : Nat, k ≤ M ∧ kv = .int .i64 k ∧ Below w.heap.size w wr) (fun kv _ => M - (intOf kv).toNat)
      case atStart => exact ⟨0, Nat.zero_le _, rfl, hf⟩
      case round =>
        obtain ⟨k, hk, rfl, hg⟩ := hrel
        have cq := fresh_cell hg HC0.out
        by_cases hkn : k + s.size ≤ M
        · have hlen : ((l.drop k).take s.size).length = s.size := by rw [List.length_take, List.length_drop]; have := EM.out; omega
          obtain ⟨b, off, e, _⟩ := HL.out.one (by have := EM.out; omega)
          have hm := RdA.mid (HL.out.fresh hg) (k := k) (n := s.size) (by have := EM.out; omega) e
          have hcv := fun n => conv_str (hm.fresh (below_drewN (Below.refl wr.heap.size wr) n))
          rw [hlen] at hcv
          have hse := str_eqs (a := (l.drop k).take s.size) (fun x hx => HB.out x (List.mem_of_mem_drop (List.mem_of_mem_take hx))) s
          have hne : decide ((l.drop k).take s.size = bys s) = false := decide_eq_false (fun e => HNN.out (by
            have e2 : (l.drop k).take (bys s).length = bys s := by rw [bys_len]; exact e
            exact mid_inf e2))
          rw [hne] at hse
          subst e
          obtain ⟨S', eS'⟩ : ∃ S', S' = strOfNums ((l.drop k).take s.size) := ⟨_, rfl⟩
          rw [← eS'] at hcv hse
          obtain ⟨n, en⟩ : ∃ n, n = s.size := ⟨_, rfl⟩
          have hg2 := fun n => fresh_trans hg (below_drewN (Below.refl wr.heap.size wr) n)
          have i1 : (0 : Int) ≤ (i : Int) := Int.natCast_nonneg _
          have i2 : (i : Int) < (N : Int) := by omega
          have i3 : (0 : Int) ≤ (k : Int) := Int.natCast_nonneg _
          have i4 : (k : Int) + (s.size : Int) ≤ (ca : Int) := by omega
          have i5 : (k : Int) ≤ (k : Int) + (s.size : Int) := by omega
          have HPK : ((((k + s.size : Nat) : Int)) = (k : Int) + (s.size : Int)) := by omega
          have e1 : IntKind.i64.wrap ((k : Int) + (s.size : Int)) = ((k + s.size : Nat) : Int) := by rw [IntKind.wrap_i64]; omega
          have hcv2 := hcv
          rw [show s.size = k + s.size - k by omega] at hcv2
          clear hm hlen hne eS' en
          go_wp2
          go_quiet (fail)
          go_wp2
          go_roundw
          case rel => exact ⟨k + 1, by omega, by go_num, hg2 _⟩
          case measure => simp [intOf]; omega
        · go_wp2
          go_roundw
          case rel => exact ⟨i + 1, by omega, by go_num, hg⟩
          case measure => simp [intOf]; omega
    · go_wp2
      go_ret
      exact ⟨rfl, hf⟩
end Go.Proofs.Ytlbmgknlbhakoab
