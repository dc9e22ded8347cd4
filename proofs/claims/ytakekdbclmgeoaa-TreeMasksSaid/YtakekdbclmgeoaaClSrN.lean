import Derived.Test.YtakekdbclmgeoaaClSrM
import Derived.Test.YtakekdbclmgeoaaClTjA
import Derived.Deep.DeepCutAuto
import Derived.Deep.RegionHeld3
import Derived.Deep.AppendLies
import Derived.Deep.DrawnRows
import Derived.Deep.RegionLaw
namespace Go.Proofs.Ytakekdbclmgeoaa.Cl
open Go.RowKit
/-! gather. -/
/-- One element of three cells more, at a step of a region that draws its order. -/
theorem step_app3 {P : Program} (w : World) {ops : Array Oper} {o : Oper} {a : Act} {K : Act → World → Prop} {Q : Exit → Act → World → Prop} {E : Prop} (hgd : o.guard = none) (s x : Operand) (t : TypeId)
    (ho : o.op = .call { callee := .builtin .append, args := #[s, x], argTypes := #[t, t] })
    (base : Nat) (e : TypeId) (z : Value) (bytes : Nat) (ht : P.underlying t = some (.slice e)) (hinfo : (P.info? e).map (fun i => (i.zero, i.size, i.bytes)) = some (some z, 3, bytes)) (h6 : z.cells.size = 3)
    (v : Value) (n : Nat) (cs : Nat → Value) (hs : a.eval s = v) (hown : Own w base e 3 v n cs)
    (g c : Nat) (hx : a.eval x = .slice (some ⟨g, 0, none⟩) 1 c) (hc : ∀ j, j < 1 * 3 → w.cell? ⟨g, j, none⟩ = some (cs (n * 3 + j))) (h1c : ∀ j, (cs j).oneCell' = true)
    (b1 : n < 9223372036854775807) (b2 : (n + 1) * bytes ≤ 140737488355328) (hb : base ≤ w.heap.size)
    (h : ∀ g' cap w', Own w' base e 3 (.slice (some ⟨g', 0, none⟩) (n + 1) cap) (n + 1) cs → App w w' v (.slice (some ⟨g', 0, none⟩) (n + 1) cap) → K (a.put o.dst (.slice (some ⟨g', 0, none⟩) (n + 1) cap)) w') :
    if Region.wanted o (yielded ops a.tmps) = true then Oper.wp P o a w K Q else E := by
  obtain ⟨i, hi, hz0, hz1, hz2⟩ := info_parts hinfo
  refine step_append_lies w hgd s x t ho base e i z 3 bytes ht hi hz0 hz1 hz2 h6 (by decide) v n _ hs hown ⟨g, 0, none⟩ 1 c [cs (n * 3), cs (n * 3 + 1), cs (n * 3 + 2)] hx rfl ?_ (by intro u hu; simp at hu; rcases hu with rfl | rfl | rfl <;> exact h1c _) (by decide) (by unfold maxLen; omega) b2 hb w.heap.size rfl ?_
  · intro j u hj
    match j, hj with
    | 0, hj => simp at hj; subst hj; rw [add_lit0]; exact hc 0 (by decide)
    | 1, hj => simp at hj; subst hj; rw [add_lit0]; exact hc 1 (by decide)
    | 2, hj => simp at hj; subst hj; rw [add_lit0]; exact hc 2 (by decide)
  · intro g' cap w' h2 h3 h4 h5
    refine h g' cap w' ?_ ⟨h3, fun k hk => ?_⟩
    · unfold Own
      have e1 := news_len n 1 3 cs
      rw [← e1]
      exact h2
    · simp only [Value.ownBlock, Option.some.injEq] at hk
      subst hk
      rcases h4 with h4 | h4
      · exact .inl h4
      · exact .inr (by omega)
theorem GaW.congrG {w wr : World} {M n : Nat} {P T D : Nat → Int} {m : Nat} {A : Nat → Int} {G G' : Int → Int → Option Int} {v7 v9 : Value} (h : GaW w wr M n P T D m A G v7 v9) (e : ∀ a b, G a b = G' a b) : GaW w wr M n P T D m A G' v7 v9 := ⟨h.nod, h.at_, h.map.congr e, h.low, h.mb⟩
set_option maxRecDepth 20000 in
set_option maxHeartbeats 8000000 in
theorem gather_any {w : World} {ao : Option Addr} {R cap : Nat} {L : List (Int × Int)} {root vocab : Int} (h : RdA w ao 2 R cap (rwF L)) (hR : R ≤ 1048576) (hv : fits vocab) :
    Calls Try.prog 45 #[.int .i64 root, .slice ao R cap, .int .i64 vocab] w fun e w' => ∃ u c, e = .returned (.slice u (gaS root vocab (fun i => (L.getD i (0, 0)).1) (fun i => (L.getD i (0, 0)).2) R).n c) ∧ Own w' w.heap.size 54 3 (.slice u (gaS root vocab (fun i => (L.getD i (0, 0)).1) (fun i => (L.getD i (0, 0)).2) R).n c) (gaS root vocab (fun i => (L.getD i (0, 0)).1) (fun i => (L.getD i (0, 0)).2) R).n (nds (gaS root vocab (fun i => (L.getD i (0, 0)).1) (fun i => (L.getD i (0, 0)).2) R).P (gaS root vocab (fun i => (L.getD i (0, 0)).1) (fun i => (L.getD i (0, 0)).2) R).T (gaS root vocab (fun i => (L.getD i (0, 0)).1) (fun i => (L.getD i (0, 0)).2) R).D) ∧ Below w.heap.size w w' := by
  have HV := hidd hv
  have HH := hidd h
  obtain ⟨S, HS⟩ : ∃ S, Hid (S = gaS root vocab (fun i => (L.getD i (0, 0)).1) (fun i => (L.getD i (0, 0)).2)) := ⟨_, rfl⟩
  rw [← HS.out]
  have HSok : Hid (∀ k, GaOk vocab (S k) k) := fun k => by rw [HS.out]; exact gaS_ok _ _ _ _ k
  have HSn : Hid (∀ k, S (k + 1) = gaN (S k) k (L.getD k (0, 0)).1 (L.getD k (0, 0)).2 vocab) := fun k => by rw [HS.out]; rfl
  have HG0 : Hid (GaW w (((w.alloc (.cells #[.int .i64 (-1), .int .i64 root, .int .i64 0] 54)).alloc (.map #[] 0)).alloc (.cells #[.int .i64 0] 3)) (w.heap.size + 1) 1 (S 0).P (S 0).T (S 0).D (0 + 1) (S 0).A (fndK (S 0).P (S 0).T 1) (.slice (some ⟨w.heap.size, 0, none⟩) 1 1) (.slice (some ⟨w.heap.size + 2, 0, none⟩) (0 + 1) 1)) := by
    rw [HS.out]; exact GaW.start w root
  have HN0 : Hid (1 = (S 0).n) := by rw [HS.out]; rfl
  clear h hv
  have hmm : ∀ w : World, (Instr.makeMap 73 none).run Try.prog w = .ok (.map (some w.heap.size)) (w.alloc (.map #[] 0)) := fun _ => rfl
  go_enter Try.func45, Try.ntmps45
  go_wp2
  go_loopw [7, 9, 23] (fun v7 v9 i wr => ∃ (k n : Nat) (u7 u9 : Option Addr) (c7 c9 : Nat), k ≤ R ∧ i = .int .i64 (k : Int) ∧ v7 = .slice u7 n c7 ∧ v9 = .slice u9 (k + 1) c9 ∧ Hid (n = (S k).n) ∧ Hid (GaW w wr (w.heap.size + 1) n (S k).P (S k).T (S k).D (k + 1) (S k).A (fndK (S k).P (S k).T n) (.slice u7 n c7) (.slice u9 (k + 1) c9))) (fun _ _ i _ => R - (intOf i).toNat)
  case atStart => exact ⟨0, 1, _, _, _, _, Nat.zero_le _, by first | rfl | simp, by first | rfl | simp, by first | rfl | simp, HN0, by first | exact HG0.out | (have := HG0.out; simpa using this)⟩
  case round =>
    clear HG0 HN0 hmm
    obtain ⟨k, n, u7, u9, c7, c9, hk, rfl, rfl, rfl, HN, HG⟩ := hrel
    by_cases hlt : k < R
    · have i1 : (k : Int) < (R : Int) := by omega
      have i0 : (0 : Int) ≤ (k : Int) := by omega
      obtain ⟨b1, o1, hu, h1⟩ := (HH.out.fresh HG.out.low).at_ (by omega)
      subst hu
      have c1 := h1 (k * 2) (by omega)
      have c2 := h1 (k * 2 + 1) (by omega)
      rw [rwF_1] at c1
      rw [rwF_2, ← Nat.add_assoc] at c2
      clear h1
      obtain ⟨p, HP⟩ : ∃ p, Hid (p = (L.getD k (0, 0)).1) := ⟨_, rfl⟩
      obtain ⟨t, HT⟩ : ∃ t, Hid (t = (L.getD k (0, 0)).2) := ⟨_, rfl⟩
      rw [← HP.out] at c1
      rw [← HT.out] at c2
      obtain ⟨b9, o9, hu9, h9⟩ := (own_rda HG.out.at_).one (by omega)
      subst hu9
      have HA9 := hidd h9
      clear h9
      obtain ⟨x1, HX1⟩ : ∃ x, Hid (x = wr.heap.size) := ⟨_, rfl⟩
      obtain ⟨w1, HW1⟩ : ∃ x, Hid (x = wr.alloc (.cells #[.int .i64 p, .int .i64 t] 57)) := ⟨_, rfl⟩
      have HF1 : Hid (Below wr.heap.size wr w1) := by rw [HW1.out]; exact fresh_alloc _ _
      have q1 : w1.cell? ⟨x1, 0, none⟩ = some (.int .i64 p) := by rw [HW1.out, HX1.out]; unfold World.cell?; rw [World.alloc_heap_new]; rfl
      have q2 : w1.cell? ⟨x1, 1, none⟩ = some (.int .i64 t) := by rw [HW1.out, HX1.out]; unfold World.cell?; rw [World.alloc_heap_new]; rfl
      have HG1 := hidd (HG.out.fresh HF1.out)
      have HOk := hidd (HSok.out k)
      obtain ⟨tb, HTB⟩ : ∃ b, Hid (b = decide (-1 ≤ p ∧ p < (k : Int) ∧ 1 ≤ t ∧ t < vocab)) := ⟨_, rfl⟩
      obtain ⟨up, HUP⟩ : ∃ u, Hid (u = upG (S k) k p t vocab) := ⟨_, rfl⟩
      have HUP1 := hidd (HOk.out.up p t)
      rw [← HUP.out, ← HN.out] at HUP1
      go_upto_region 7 with fail
      rw [← HW1.out, ← HX1.out]
      clear c1 c2
      go_upto_region 8 with fail
      go_cut [28, 29, 30, 31, 32, 33, 34, 35, 36, 37, 38, 39, 40, 41, 42, 43, 44, 45, 46, 47] (fun _ _ _ _ _ _ _ _ _ _ _ _ _ _ _ _ _ _ _ vt wx => wx = w1 ∧ vt = .bool tb)
      case first =>
        by_cases a1 : -1 ≤ p
        · have da1 : decide ((-1 : Int) ≤ p) = true := decide_eq_true a1
          by_cases a2 : p < (k : Int)
          · have da2 : decide (p < (k : Int)) = true := decide_eq_true a2
            by_cases a3 : 1 ≤ t
            · have da3 : decide ((1 : Int) ≤ t) = true := decide_eq_true a3
              by_cases a4 : t < vocab
              · have da4 : decide (t < vocab) = true := decide_eq_true a4
                have ht : tb = true := by rw [HTB.out]; exact decide_eq_true ⟨a1, a2, a3, a4⟩
                clear HTB; subst ht
                go_wp2_with fail
                go_meet
                case rel => exact ⟨rfl, rfl⟩
              · have da4 : decide (t < vocab) = false := decide_eq_false a4
                have ht : tb = false := by rw [HTB.out]; exact decide_eq_false (fun q => a4 q.2.2.2)
                clear HTB; subst ht
                go_wp2_with fail
                go_meet
                case rel => exact ⟨rfl, rfl⟩
            · have da3 : decide ((1 : Int) ≤ t) = false := decide_eq_false a3
              have ht : tb = false := by rw [HTB.out]; exact decide_eq_false (fun q => a3 q.2.2.1)
              clear HTB; subst ht
              go_wp2_with fail
              go_meet
              case rel => exact ⟨rfl, rfl⟩
          · have da2 : decide (p < (k : Int)) = false := decide_eq_false a2
            have ht : tb = false := by rw [HTB.out]; exact decide_eq_false (fun q => a2 q.2.1)
            clear HTB; subst ht
            go_wp2_with fail
            go_meet
            case rel => exact ⟨rfl, rfl⟩
        · have da1 : decide ((-1 : Int) ≤ p) = false := decide_eq_false a1
          have ht : tb = false := by rw [HTB.out]; exact decide_eq_false (fun q => a1 q.1)
          clear HTB; subst ht
          go_wp2_with fail
          go_meet
          case rel => exact ⟨rfl, rfl⟩
      case rest =>
        obtain ⟨hw, hvv⟩ := hcut
        subst hvv
        rw [hw]
        clear hw
        go_upto_if 47 with fail
        go_cut [12, 48, 49, 50, 51, 52, 53] (fun vu _ _ _ _ _ _ wx => wx = w1 ∧ vu = .int .i64 up)
        case first =>
          cases tb with
          | true =>
            have hq : -1 ≤ p ∧ p < (k : Int) ∧ 1 ≤ t ∧ t < vocab := of_decide_eq_true HTB.out.symm
            obtain ⟨j, HJ⟩ : ∃ j : Nat, Hid (j = (p + 1).toNat) := ⟨_, rfl⟩
            have hjk : j < k + 1 := by have := HJ.out; omega
            have e1 : IntKind.i64.wrap (p + 1) = (j : Int) := by rw [IntKind.wrap_i64]; have := HJ.out; omega
            have e2 : p + 1 = (j : Int) := by have := HJ.out; omega
            have HE : Hid (up = (S k).A j) := by show up = _; rw [HUP.out, HJ.out]; unfold upG; rw [if_pos hq]
            have c3 : w1.cell? ⟨b9, o9 + j, none⟩ = some (.int .i64 up) := by rw [HE.out]; exact fresh_cell HF1.out (HA9.out j hjk)
            have i2 : (0 : Int) ≤ (j : Int) := by omega
            have i3 : (j : Int) < ((k + 1 : Nat) : Int) := by omega
            have i4 : (j : Int) < (k : Int) + 1 := by omega
            clear HTB hq e2
            go_wp2_with fail
            go_meet
            case rel => exact ⟨rfl, rfl⟩
          | false =>
            have hq : ¬ (-1 ≤ p ∧ p < (k : Int) ∧ 1 ≤ t ∧ t < vocab) := of_decide_eq_false HTB.out.symm
            have HE : Hid (up = -1) := by show up = _; rw [HUP.out]; unfold upG; rw [if_neg hq]
            clear HTB hq
            go_wp2_with fail
            go_meet
            case rel => exact ⟨rfl, by rw [HE.out]⟩
        case rest =>
          obtain ⟨hw, hvv⟩ := hcut
          subst hvv
          rw [hw]
          clear hw HTB
          have hsz := HG1.out.low.size
          by_cases hup : up = -1
          · have d1 : decide (up = -1) = true := decide_eq_true hup
            have d2 : (up == -1) = true := by simp [hup]
            have HNX : Hid (S (k + 1) = gaOut (S k) k (-1)) := by show _ = _; rw [HSn.out, ← HP.out, ← HT.out]; unfold gaN; rw [← HUP.out, if_pos hup]
            have HOa : Hid (Own w1 w.heap.size 3 1 (.slice (some ⟨b9, o9, none⟩) (k + 1) c9) (k + 1) (fun j => .int .i64 (ext (S k).A (k + 1) (-1) j))) := HG1.out.at_.congr (fun j hj => by rw [ext_lt (by omega)])
            clear hup
            go_wp2_with (at_builtin; refine wpList_app1 _ rfl _ _ 47 rfl w.heap.size 3 (.int .i64 0) 8 Try.underlying47 infoIs rfl _ (k + 1) (fun j => .int .i64 (ext (S k).A (k + 1) (-1) j)) rfl (HOa.out.kept (fresh_alloc _ _)) _ 1 rfl (new_int _ _ (ext_at _ _ _)) rfl (by omega) (by omega) (by simp; omega) ?_)
            intro v' w2 hown' happ
            obtain ⟨u8, c8, rfl, _⟩ := hown'.rd
            have HG2 := hidd ((HG1.out.fresh (fresh_alloc _ _)).appA hown' happ)
            clear happ hown' HOa
            go_wp2
            go_roundw
            case rel => exact ⟨k + 1, n, _, _, _, _, by omega, by go_num, rfl, rfl, by rw [HNX.out]; exact HN, by rw [HNX.out]; exact HG2⟩
            case measure => simp [intOf]; omega
          · have d1 : decide (up = -1) = false := decide_eq_false hup
            have d2 : (up == -1) = false := by simp [hup]
            have hu1 := HUP1.out
            have ht := hu1.2.2 hup
            have hnk : n ≤ k + 1 := by rw [HN.out]; exact HOk.out.le
            have FU : Hid (fits up) := by show fits up; unfold fits; omega
            have FT : Hid (fits t) := by have := HV.out; show fits t; unfold fits at *; omega
            obtain ⟨x2, HX2⟩ : ∃ x, Hid (x = w1.heap.size) := ⟨_, rfl⟩
            obtain ⟨w2, HW2⟩ : ∃ x, Hid (x = w1.alloc (.cells #[.int .i64 up, .int .i64 t] 57)) := ⟨_, rfl⟩
            have HF2 : Hid (Below w1.heap.size w1 w2) := by rw [HW2.out]; exact fresh_alloc _ _
            have r1 : w2.cell? ⟨x2, 0, none⟩ = some (.int .i64 up) := by rw [HW2.out, HX2.out]; unfold World.cell?; rw [World.alloc_heap_new]; rfl
            have r2 : w2.cell? ⟨x2, 1, none⟩ = some (.int .i64 t) := by rw [HW2.out, HX2.out]; unfold World.cell?; rw [World.alloc_heap_new]; rfl
            have q4 : w2.cell? ⟨x1, 1, none⟩ = some (.int .i64 t) := fresh_cell HF2.out q2
            have HG2 := hidd (HG1.out.fresh HF2.out)
            have hsz2 := HG2.out.low.size
            go_upto_region 13 with fail
            rw [← HW2.out, ← HX2.out]
            clear q1 q2
            cases hf : fndK (S k).P (S k).T n up t with
            | some v =>
              have lk : (Instr.lookup 73 (.map (some (w.heap.size + 1))) (.agg #[.int .i64 up, .int .i64 t]) true).run Try.prog w2 = .ok (.tuple #[.int .i64 v, .bool true]) w2 := HG2.out.map.look_some FU.out FT.out hf
              have HNX : Hid (S (k + 1) = gaOut (S k) k v) := by show _ = _; rw [HSn.out, ← HP.out, ← HT.out]; unfold gaN; rw [← HUP.out, if_neg hup, ← HN.out, hf]
              have HOa : Hid (Own w2 w.heap.size 3 1 (.slice (some ⟨b9, o9, none⟩) (k + 1) c9) (k + 1) (fun j => .int .i64 (ext (S k).A (k + 1) v j))) := HG2.out.at_.congr (fun j hj => by rw [ext_lt (by omega)])
              clear hup hf hu1
              go_wp2_with (at_builtin; refine wpList_app1 _ rfl _ _ 47 rfl w.heap.size 3 (.int .i64 0) 8 Try.underlying47 infoIs rfl _ (k + 1) (fun j => .int .i64 (ext (S k).A (k + 1) v j)) rfl (HOa.out.kept (fresh_alloc _ _)) _ 1 rfl (new_int _ _ (ext_at _ _ _)) rfl (by omega) (by omega) (by simp; omega) ?_)
              intro v' w4 hown' happ
              obtain ⟨u8, c8, rfl, _⟩ := hown'.rd
              have HG4 := hidd ((HG2.out.fresh (fresh_alloc _ _)).appA hown' happ)
              clear happ hown' HOa
              go_wp2
              go_roundw
              case rel => exact ⟨k + 1, n, _, _, _, _, by omega, by go_num, rfl, rfl, by rw [HNX.out]; exact HN, by rw [HNX.out]; exact HG4⟩
              case measure => simp [intOf]; omega
            | none =>
              have lk : (Instr.lookup 73 (.map (some (w.heap.size + 1))) (.agg #[.int .i64 up, .int .i64 t]) true).run Try.prog w2 = .ok (.tuple #[.int .i64 0, .bool false]) w2 := HG2.out.map.look_none FU.out FT.out hf
              have HNX : Hid (S (k + 1) = gaNew (S k) k up t) := by show _ = _; rw [HSn.out, ← HP.out, ← HT.out]; unfold gaN; rw [← HUP.out, if_neg hup, ← HN.out, hf]
              obtain ⟨w3, hupd, g3, b3, s3⟩ := HG2.out.upd FU.out FT.out (n : Int)
              have HG3 := hidd g3
              obtain ⟨un, hun⟩ : ∃ un : Nat, up = (un : Int) := ⟨up.toNat, by omega⟩
              subst hun
              have hx1M : x1 ≠ w.heap.size + 1 := by
                have q := HG.out.map.lt
                rw [HX1.out]; omega
              have q5 : w3.cell? ⟨x1, 1, none⟩ = some (.int .i64 t) := by rw [← q4]; unfold World.cell?; simp only [b3 x1 hx1M]
              have hun2 : un < n := by omega
              obtain ⟨b7, o7, hu7, h7⟩ := (own_rda HG3.out.nod).node (by omega)
              subst hu7
              have n3 := (h7 un hun2).2.2
              have HDP := hidd (HOk.out.dep un (by rw [← HN.out]; exact hun2))
              have HCONV : Hid (∀ wx v7 v9, GaW w wx (w.heap.size + 1) (n + 1) (ext (S k).P n un) (ext (S k).T n t) (ext (S k).D n ((S k).D un + 1)) (k + 1 + 1) (ext (S k).A (k + 1) n) (updK (fndK (S k).P (S k).T n) un t n) v7 v9 → GaW w wx (w.heap.size + 1) (n + 1) (S (k + 1)).P (S (k + 1)).T (S (k + 1)).D (k + 1 + 1) (S (k + 1)).A (fndK (S (k + 1)).P (S (k + 1)).T (n + 1)) v7 v9) := fun wx v7 v9 hh => by
                rw [HNX.out, HN.out]
                rw [HN.out] at hh
                exact hh.congrG (fun a b => fndK_new (S k) k un t HOk.out.one a b)
              have HN2 : Hid (n + 1 = (S (k + 1)).n) := by show n + 1 = _; rw [HNX.out, HN.out]; rfl
              obtain ⟨dv, HDV⟩ : ∃ x, Hid (x = (S k).D un) := ⟨_, rfl⟩
              rw [← HDV.out] at n3 HDP HCONV
              have e5 : IntKind.i64.wrap (dv + 1) = dv + 1 := by rw [IntKind.wrap_i64]; have := HDP.out; omega
              have HO7 : Hid (Own w3 w.heap.size 54 3 (.slice (some ⟨b7, o7, none⟩) n c7) n (nds (ext (S k).P n un) (ext (S k).T n t) (ext (S k).D n (dv + 1)))) := HG3.out.nod.congr (fun j hj => nds_congr (fun i hi => ⟨(ext_lt hi).symm, (ext_lt hi).symm, (ext_lt hi).symm⟩) hj)
              have N3 : Hid (∀ j, j < 1 * 3 → (w3.alloc (.cells #[.int .i64 (un : Int), .int .i64 t, .int .i64 (dv + 1)] 54)).cell? ⟨w3.heap.size, j, none⟩ = some (nds (ext (S k).P n un) (ext (S k).T n t) (ext (S k).D n (dv + 1)) (n * 3 + j))) := fun j hj => by
                unfold World.cell?
                rw [World.alloc_heap_new]
                match j, hj with
                | 0, _ => rw [Nat.add_zero, nds_0, ext_at]; rfl
                | 1, _ => rw [nds_1, ext_at]; rfl
                | 2, _ => rw [nds_2, ext_at]; rfl
              have i5 : (0 : Int) ≤ (un : Int) := by omega
              have i6 : (un : Int) < (n : Int) := by omega
              have hsz3 := HG3.out.low.size
              clear hup hf hu1 h7 b3 g3 s3
              go_upto_region 17 with fail
              clear lk hupd r1 r2 q4
              go_region_law ((refine step_app3 _ (by rfl) _ _ _ (by rfl) w.heap.size 54 (.agg #[.int .i64 0, .int .i64 0, .int .i64 0]) 24 Try.underlying29 infoN rfl _ n (nds (ext (S k).P n un) (ext (S k).T n t) (ext (S k).D n (dv + 1))) (by rfl) (by first | exact HO7.out.kept (fresh_alloc _ _) | exact (HO7.out.kept (fresh_alloc _ _)).kept (Below.refl _ _).drew) w3.heap.size 1 (by rfl) (by first | exact N3.out | (intro j hj; have := N3.out j hj; simpa using this)) (fun _ => nds_one _ _ _ _) (by omega) (by omega) (by simp; omega) ?_; intro g' cap' w5 hown5 happ5))
              all_goals
                have happ5 : App (w3.alloc (.cells #[.int .i64 (un : Int), .int .i64 t, .int .i64 (dv + 1)] 54)).drew w5 (.slice (some ⟨b7, o7, none⟩) n c7) (.slice (some ⟨g', 0, none⟩) (n + 1) cap') := happ5
                have HG5 := hidd ((HG3.out.fresh (fresh_alloc w3 _).drew).appN hown5 happ5)
                have hsz5 := HG5.out.low.size
                have HO9 : Hid (Own w5 w.heap.size 3 1 (.slice (some ⟨b9, o9, none⟩) (k + 1) c9) (k + 1) (fun j => .int .i64 (ext (S k).A (k + 1) n j))) := HG5.out.at_.congr (fun j hj => by rw [ext_lt (by omega)])
                clear happ5 hown5 HO7 N3 n3 q5
                go_wp2_with (at_builtin; refine wpList_app1 _ rfl _ _ 47 rfl w.heap.size 3 (.int .i64 0) 8 Try.underlying47 infoIs rfl _ (k + 1) (fun j => .int .i64 (ext (S k).A (k + 1) n j)) rfl (HO9.out.kept (fresh_alloc _ _)) _ 1 rfl (new_int _ _ (ext_at _ _ _)) rfl (by omega) (by omega) (by simp; omega) ?_)
                intro v' w6 hown6 happ6
                obtain ⟨u8, c8, rfl, _⟩ := hown6.rd
                have HG6 := hidd (HCONV.out _ _ _ ((HG5.out.fresh (fresh_alloc _ _)).appA hown6 happ6))
                clear happ6 hown6 HO9
                go_wp2
                go_roundw
                case rel => exact ⟨k + 1, n + 1, _, _, _, _, by omega, by go_num, rfl, rfl, HN2, HG6⟩
                case measure => simp [intOf]; omega
    · obtain rfl : k = R := by omega
      have HEND : Hid (Own wr w.heap.size 54 3 (.slice u7 (S k).n c7) (S k).n (nds (S k).P (S k).T (S k).D)) := by have := HG.out.nod; rw [HN.out] at this; exact this
      have HLOW := hidd HG.out.low
      rw [HN.out]
      clear HG
      go_wp2
      go_ret
      exact ⟨u7, c7, rfl, HEND.out, HLOW.out⟩
end Go.Proofs.Ytakekdbclmgeoaa.Cl
