import Derived.Test.YtclaeamoflfjgaaDoorFixMono
namespace Go.Proofs.YtclaeamoflfjgaaDoor.Fix
/-! Exp against the powers of one number, 60 bits behind the point: no program in sight. -/
def Y : Nat → Nat
  | 0 => 1152921504606846976
  | r + 1 => Y r * 1152903912555019605 / 1152921504606846976
/-- the number of 16 bits lies from 13/8 below to 21/8 above the power -/
def ok (r y : Nat) : Bool := Nat.ble (8 * e0 r * 17592186044416) (8 * y + 369435906932736) && Nat.ble (8 * y) (8 * e0 r * 17592186044416 + 228698418577408)
def run : Nat → Nat → Nat → Nat
  | 0, _, y => y
  | n + 1, r, y => cond (ok r y) (run n (r + 1) (y * 1152903912555019605 / 1152921504606846976)) 0
theorem run_ok : ∀ (n r y y' : Nat), run n r y = y' → y' ≠ 0 → y = Y r → Y (r + n) = y' ∧ ∀ i, r ≤ i → i < r + n → ok i (Y i) = true := by
  intro n
  induction n with
  | zero =>
    intro r y y' h _ hy
    refine ⟨?_, fun i h0 h1 => by omega⟩
    rw [Nat.add_zero, ← hy]; exact h
  | succ n ih =>
    intro r y y' h hne hy
    have h' : cond (ok r y) (run n (r + 1) (y * 1152903912555019605 / 1152921504606846976)) 0 = y' := h
    cases hk : ok r y with
    | false => rw [hk] at h'; exact absurd h'.symm hne
    | true =>
      rw [hk] at h'
      have h2 := ih (r + 1) _ y' h' hne (by rw [hy]; rfl)
      refine ⟨by rw [show r + (n + 1) = r + 1 + n by omega]; exact h2.1, fun i h0 h1 => ?_⟩
      by_cases hc : i = r
      · rw [hc, ← hy]; exact hk
      · exact h2.2 i (by omega) (by omega)
set_option maxRecDepth 100000
theorem ck0 : run 1024 0 1152921504606846976 = 1135047113432354544 := by decide +kernel
theorem ch0 : Y 1024 = 1135047113432354544 ∧ ∀ i, 0 ≤ i → i < 1024 → ok i (Y i) = true := run_ok 1024 0 1152921504606846976 1135047113432354544 ck0 (by decide) rfl
theorem ck1 : run 1024 1024 1135047113432354544 = 1117449839007425855 := by decide +kernel
theorem cp1 : Y 2048 = 1117449839007425855 ∧ ∀ i, 1024 ≤ i → i < 2048 → ok i (Y i) = true := run_ok 1024 1024 1135047113432354544 1117449839007425855 ck1 (by decide) ch0.1.symm
theorem ch1 : Y 2048 = 1117449839007425855 ∧ ∀ i, 0 ≤ i → i < 2048 → ok i (Y i) = true :=
  ⟨cp1.1, fun i h0 h1 => if h : i < 1024 then ch0.2 i h0 h else cp1.2 i (by omega) h1⟩
theorem ck2 : run 1024 2048 1117449839007425855 = 1100125385035077147 := by decide +kernel
theorem cp2 : Y 3072 = 1100125385035077147 ∧ ∀ i, 2048 ≤ i → i < 3072 → ok i (Y i) = true := run_ok 1024 2048 1117449839007425855 1100125385035077147 ck2 (by decide) ch1.1.symm
theorem ch2 : Y 3072 = 1100125385035077147 ∧ ∀ i, 0 ≤ i → i < 3072 → ok i (Y i) = true :=
  ⟨cp2.1, fun i h0 h1 => if h : i < 2048 then ch1.2 i h0 h else cp2.2 i (by omega) h1⟩
theorem ck3 : run 1024 3072 1100125385035077147 = 1083069521826235667 := by decide +kernel
theorem cp3 : Y 4096 = 1083069521826235667 ∧ ∀ i, 3072 ≤ i → i < 4096 → ok i (Y i) = true := run_ok 1024 3072 1100125385035077147 1083069521826235667 ck3 (by decide) ch2.1.symm
theorem ch3 : Y 4096 = 1083069521826235667 ∧ ∀ i, 0 ≤ i → i < 4096 → ok i (Y i) = true :=
  ⟨cp3.1, fun i h0 h1 => if h : i < 3072 then ch2.2 i h0 h else cp3.2 i (by omega) h1⟩
theorem ck4 : run 1024 4096 1083069521826235667 = 1066278085267079591 := by decide +kernel
theorem cp4 : Y 5120 = 1066278085267079591 ∧ ∀ i, 4096 ≤ i → i < 5120 → ok i (Y i) = true := run_ok 1024 4096 1083069521826235667 1066278085267079591 ck4 (by decide) ch3.1.symm
theorem ch4 : Y 5120 = 1066278085267079591 ∧ ∀ i, 0 ≤ i → i < 5120 → ok i (Y i) = true :=
  ⟨cp4.1, fun i h0 h1 => if h : i < 4096 then ch3.2 i h0 h else cp4.2 i (by omega) h1⟩
theorem ck5 : run 1024 5120 1066278085267079591 = 1049746975802388104 := by decide +kernel
theorem cp5 : Y 6144 = 1049746975802388104 ∧ ∀ i, 5120 ≤ i → i < 6144 → ok i (Y i) = true := run_ok 1024 5120 1066278085267079591 1049746975802388104 ck5 (by decide) ch4.1.symm
theorem ch5 : Y 6144 = 1049746975802388104 ∧ ∀ i, 0 ≤ i → i < 6144 → ok i (Y i) = true :=
  ⟨cp5.1, fun i h0 h1 => if h : i < 5120 then ch4.2 i h0 h else cp5.2 i (by omega) h1⟩
theorem ck6 : run 1024 6144 1049746975802388104 = 1033472157434652957 := by decide +kernel
theorem cp6 : Y 7168 = 1033472157434652957 ∧ ∀ i, 6144 ≤ i → i < 7168 → ok i (Y i) = true := run_ok 1024 6144 1049746975802388104 1033472157434652957 ck6 (by decide) ch5.1.symm
theorem ch6 : Y 7168 = 1033472157434652957 ∧ ∀ i, 0 ≤ i → i < 7168 → ok i (Y i) = true :=
  ⟨cp6.1, fun i h0 h1 => if h : i < 6144 then ch5.2 i h0 h else cp6.2 i (by omega) h1⟩
theorem ck7 : run 1024 7168 1033472157434652957 = 1017449656738707521 := by decide +kernel
theorem cp7 : Y 8192 = 1017449656738707521 ∧ ∀ i, 7168 ≤ i → i < 8192 → ok i (Y i) = true := run_ok 1024 7168 1033472157434652957 1017449656738707521 ck7 (by decide) ch6.1.symm
theorem ch7 : Y 8192 = 1017449656738707521 ∧ ∀ i, 0 ≤ i → i < 8192 → ok i (Y i) = true :=
  ⟨cp7.1, fun i h0 h1 => if h : i < 7168 then ch6.2 i h0 h else cp7.2 i (by omega) h1⟩
theorem ck8 : run 1024 8192 1017449656738707521 = 1001675561891632580 := by decide +kernel
theorem cp8 : Y 9216 = 1001675561891632580 ∧ ∀ i, 8192 ≤ i → i < 9216 → ok i (Y i) = true := run_ok 1024 8192 1017449656738707521 1001675561891632580 ck8 (by decide) ch7.1.symm
theorem ch8 : Y 9216 = 1001675561891632580 ∧ ∀ i, 0 ≤ i → i < 9216 → ok i (Y i) = true :=
  ⟨cp8.1, fun i h0 h1 => if h : i < 8192 then ch7.2 i h0 h else cp8.2 i (by omega) h1⟩
theorem ck9 : run 1024 9216 1001675561891632580 = 986146021717701907 := by decide +kernel
theorem cp9 : Y 10240 = 986146021717701907 ∧ ∀ i, 9216 ≤ i → i < 10240 → ok i (Y i) = true := run_ok 1024 9216 1001675561891632580 986146021717701907 ck9 (by decide) ch8.1.symm
theorem ch9 : Y 10240 = 986146021717701907 ∧ ∀ i, 0 ≤ i → i < 10240 → ok i (Y i) = true :=
  ⟨cp9.1, fun i h0 h1 => if h : i < 9216 then ch8.2 i h0 h else cp9.2 i (by omega) h1⟩
theorem ck10 : run 1024 10240 986146021717701907 = 970857244748134829 := by decide +kernel
theorem cp10 : Y 11264 = 970857244748134829 ∧ ∀ i, 10240 ≤ i → i < 11264 → ok i (Y i) = true := run_ok 1024 10240 986146021717701907 970857244748134829 ck10 (by decide) ch9.1.symm
theorem ch10 : Y 11264 = 970857244748134829 ∧ ∀ i, 0 ≤ i → i < 11264 → ok i (Y i) = true :=
  ⟨cp10.1, fun i h0 h1 => if h : i < 10240 then ch9.2 i h0 h else cp10.2 i (by omega) h1⟩
theorem ck11 : run 1024 11264 970857244748134829 = 955805498295425694 := by decide +kernel
theorem cp11 : Y 12288 = 955805498295425694 ∧ ∀ i, 11264 ≤ i → i < 12288 → ok i (Y i) = true := run_ok 1024 11264 970857244748134829 955805498295425694 ck11 (by decide) ch10.1.symm
theorem ch11 : Y 12288 = 955805498295425694 ∧ ∀ i, 0 ≤ i → i < 12288 → ok i (Y i) = true :=
  ⟨cp11.1, fun i h0 h1 => if h : i < 11264 then ch10.2 i h0 h else cp11.2 i (by omega) h1⟩
theorem ck12 : run 1024 12288 955805498295425694 = 940987107542024754 := by decide +kernel
theorem cp12 : Y 13312 = 940987107542024754 ∧ ∀ i, 12288 ≤ i → i < 13312 → ok i (Y i) = true := run_ok 1024 12288 955805498295425694 940987107542024754 ck12 (by decide) ch11.1.symm
theorem ch12 : Y 13312 = 940987107542024754 ∧ ∀ i, 0 ≤ i → i < 13312 → ok i (Y i) = true :=
  ⟨cp12.1, fun i h0 h1 => if h : i < 12288 then ch11.2 i h0 h else cp12.2 i (by omega) h1⟩
theorem ck13 : run 1024 13312 940987107542024754 = 926398454643147647 := by decide +kernel
theorem cp13 : Y 14336 = 926398454643147647 ∧ ∀ i, 13312 ≤ i → i < 14336 → ok i (Y i) = true := run_ok 1024 13312 940987107542024754 926398454643147647 ck13 (by decide) ch12.1.symm
theorem ch13 : Y 14336 = 926398454643147647 ∧ ∀ i, 0 ≤ i → i < 14336 → ok i (Y i) = true :=
  ⟨cp13.1, fun i h0 h1 => if h : i < 13312 then ch12.2 i h0 h else cp13.2 i (by omega) h1⟩
theorem ck14 : run 1024 14336 926398454643147647 = 912035977843494514 := by decide +kernel
theorem cp14 : Y 15360 = 912035977843494514 ∧ ∀ i, 14336 ≤ i → i < 15360 → ok i (Y i) = true := run_ok 1024 14336 926398454643147647 912035977843494514 ck14 (by decide) ch13.1.symm
theorem ch14 : Y 15360 = 912035977843494514 ∧ ∀ i, 0 ≤ i → i < 15360 → ok i (Y i) = true :=
  ⟨cp14.1, fun i h0 h1 => if h : i < 14336 then ch13.2 i h0 h else cp14.2 i (by omega) h1⟩
theorem ck15 : run 1024 15360 912035977843494514 = 897896170607663172 := by decide +kernel
theorem cp15 : Y 16384 = 897896170607663172 ∧ ∀ i, 15360 ≤ i → i < 16384 → ok i (Y i) = true := run_ok 1024 15360 912035977843494514 897896170607663172 ck15 (by decide) ch14.1.symm
theorem ch15 : Y 16384 = 897896170607663172 ∧ ∀ i, 0 ≤ i → i < 16384 → ok i (Y i) = true :=
  ⟨cp15.1, fun i h0 h1 => if h : i < 15360 then ch14.2 i h0 h else cp15.2 i (by omega) h1⟩
theorem ck16 : run 1024 16384 897896170607663172 = 883975580764043950 := by decide +kernel
theorem cp16 : Y 17408 = 883975580764043950 ∧ ∀ i, 16384 ≤ i → i < 17408 → ok i (Y i) = true := run_ok 1024 16384 897896170607663172 883975580764043950 ck16 (by decide) ch15.1.symm
theorem ch16 : Y 17408 = 883975580764043950 ∧ ∀ i, 0 ≤ i → i < 17408 → ok i (Y i) = true :=
  ⟨cp16.1, fun i h0 h1 => if h : i < 16384 then ch15.2 i h0 h else cp16.2 i (by omega) h1⟩
theorem ck17 : run 1024 17408 883975580764043950 = 870270809661987129 := by decide +kernel
theorem cp17 : Y 18432 = 870270809661987129 ∧ ∀ i, 17408 ≤ i → i < 18432 → ok i (Y i) = true := run_ok 1024 17408 883975580764043950 870270809661987129 ck17 (by decide) ch16.1.symm
theorem ch17 : Y 18432 = 870270809661987129 ∧ ∀ i, 0 ≤ i → i < 18432 → ok i (Y i) = true :=
  ⟨cp17.1, fun i h0 h1 => if h : i < 17408 then ch16.2 i h0 h else cp17.2 i (by omega) h1⟩
theorem ck18 : run 1024 18432 870270809661987129 = 856778511342037519 := by decide +kernel
theorem cp18 : Y 19456 = 856778511342037519 ∧ ∀ i, 18432 ≤ i → i < 19456 → ok i (Y i) = true := run_ok 1024 18432 870270809661987129 856778511342037519 ck18 (by decide) ch17.1.symm
theorem ch18 : Y 19456 = 856778511342037519 ∧ ∀ i, 0 ≤ i → i < 19456 → ok i (Y i) = true :=
  ⟨cp18.1, fun i h0 h1 => if h : i < 18432 then ch17.2 i h0 h else cp18.2 i (by omega) h1⟩
theorem ck19 : run 1024 19456 856778511342037519 = 843495391719033067 := by decide +kernel
theorem cp19 : Y 20480 = 843495391719033067 ∧ ∀ i, 19456 ≤ i → i < 20480 → ok i (Y i) = true := run_ok 1024 19456 856778511342037519 843495391719033067 ck19 (by decide) ch18.1.symm
theorem ch19 : Y 20480 = 843495391719033067 ∧ ∀ i, 0 ≤ i → i < 20480 → ok i (Y i) = true :=
  ⟨cp19.1, fun i h0 h1 => if h : i < 19456 then ch18.2 i h0 h else cp19.2 i (by omega) h1⟩
theorem ck20 : run 1024 20480 843495391719033067 = 830418207777868572 := by decide +kernel
theorem cp20 : Y 21504 = 830418207777868572 ∧ ∀ i, 20480 ≤ i → i < 21504 → ok i (Y i) = true := run_ok 1024 20480 843495391719033067 830418207777868572 ck20 (by decide) ch19.1.symm
theorem ch20 : Y 21504 = 830418207777868572 ∧ ∀ i, 0 ≤ i → i < 21504 → ok i (Y i) = true :=
  ⟨cp20.1, fun i h0 h1 => if h : i < 20480 then ch19.2 i h0 h else cp20.2 i (by omega) h1⟩
theorem ck21 : run 1024 21504 830418207777868572 = 817543766781727768 := by decide +kernel
theorem cp21 : Y 22528 = 817543766781727768 ∧ ∀ i, 21504 ≤ i → i < 22528 → ok i (Y i) = true := run_ok 1024 21504 830418207777868572 817543766781727768 ck21 (by decide) ch20.1.symm
theorem ch21 : Y 22528 = 817543766781727768 ∧ ∀ i, 0 ≤ i → i < 22528 → ok i (Y i) = true :=
  ⟨cp21.1, fun i h0 h1 => if h : i < 21504 then ch20.2 i h0 h else cp21.2 i (by omega) h1⟩
theorem ck22 : run 1024 22528 817543766781727768 = 804868925492590816 := by decide +kernel
theorem cp22 : Y 23552 = 804868925492590816 ∧ ∀ i, 22528 ≤ i → i < 23552 → ok i (Y i) = true := run_ok 1024 22528 817543766781727768 804868925492590816 ck22 (by decide) ch21.1.symm
theorem ch22 : Y 23552 = 804868925492590816 ∧ ∀ i, 0 ≤ i → i < 23552 → ok i (Y i) = true :=
  ⟨cp22.1, fun i h0 h1 => if h : i < 22528 then ch21.2 i h0 h else cp22.2 i (by omega) h1⟩
theorem ck23 : run 1024 23552 804868925492590816 = 792390589403826461 := by decide +kernel
theorem cp23 : Y 24576 = 792390589403826461 ∧ ∀ i, 23552 ≤ i → i < 24576 → ok i (Y i) = true := run_ok 1024 23552 804868925492590816 792390589403826461 ck23 (by decide) ch22.1.symm
theorem ch23 : Y 24576 = 792390589403826461 ∧ ∀ i, 0 ≤ i → i < 24576 → ok i (Y i) = true :=
  ⟨cp23.1, fun i h0 h1 => if h : i < 23552 then ch22.2 i h0 h else cp23.2 i (by omega) h1⟩
theorem ck24 : run 1024 24576 792390589403826461 = 780105711984681938 := by decide +kernel
theorem cp24 : Y 25600 = 780105711984681938 ∧ ∀ i, 24576 ≤ i → i < 25600 → ok i (Y i) = true := run_ok 1024 24576 792390589403826461 780105711984681938 ck24 (by decide) ch23.1.symm
theorem ch24 : Y 25600 = 780105711984681938 ∧ ∀ i, 0 ≤ i → i < 25600 → ok i (Y i) = true :=
  ⟨cp24.1, fun i h0 h1 => if h : i < 24576 then ch23.2 i h0 h else cp24.2 i (by omega) h1⟩
theorem ck25 : run 1024 25600 780105711984681938 = 768011293936485967 := by decide +kernel
theorem cp25 : Y 26624 = 768011293936485967 ∧ ∀ i, 25600 ≤ i → i < 26624 → ok i (Y i) = true := run_ok 1024 25600 780105711984681938 768011293936485967 ck25 (by decide) ch24.1.symm
theorem ch25 : Y 26624 = 768011293936485967 ∧ ∀ i, 0 ≤ i → i < 26624 → ok i (Y i) = true :=
  ⟨cp25.1, fun i h0 h1 => if h : i < 25600 then ch24.2 i h0 h else cp25.2 i (by omega) h1⟩
theorem ck26 : run 1024 26624 768011293936485967 = 756104382460383119 := by decide +kernel
theorem cp26 : Y 27648 = 756104382460383119 ∧ ∀ i, 26624 ≤ i → i < 27648 → ok i (Y i) = true := run_ok 1024 26624 768011293936485967 756104382460383119 ck26 (by decide) ch25.1.symm
theorem ch26 : Y 27648 = 756104382460383119 ∧ ∀ i, 0 ≤ i → i < 27648 → ok i (Y i) = true :=
  ⟨cp26.1, fun i h0 h1 => if h : i < 26624 then ch25.2 i h0 h else cp26.2 i (by omega) h1⟩
theorem ck27 : run 1024 27648 756104382460383119 = 744382070536421067 := by decide +kernel
theorem cp27 : Y 28672 = 744382070536421067 ∧ ∀ i, 27648 ≤ i → i < 28672 → ok i (Y i) = true := run_ok 1024 27648 756104382460383119 744382070536421067 ck27 (by decide) ch26.1.symm
theorem ch27 : Y 28672 = 744382070536421067 ∧ ∀ i, 0 ≤ i → i < 28672 → ok i (Y i) = true :=
  ⟨cp27.1, fun i h0 h1 => if h : i < 27648 then ch26.2 i h0 h else cp27.2 i (by omega) h1⟩
theorem ck28 : run 1024 28672 744382070536421067 = 732841496213814422 := by decide +kernel
theorem cp28 : Y 29696 = 732841496213814422 ∧ ∀ i, 28672 ≤ i → i < 29696 → ok i (Y i) = true := run_ok 1024 28672 744382070536421067 732841496213814422 ck28 (by decide) ch27.1.symm
theorem ch28 : Y 29696 = 732841496213814422 ∧ ∀ i, 0 ≤ i → i < 29696 → ok i (Y i) = true :=
  ⟨cp28.1, fun i h0 h1 => if h : i < 28672 then ch27.2 i h0 h else cp28.2 i (by omega) h1⟩
theorem ck29 : run 1024 29696 732841496213814422 = 721479841912212059 := by decide +kernel
theorem cp29 : Y 30720 = 721479841912212059 ∧ ∀ i, 29696 ≤ i → i < 30720 → ok i (Y i) = true := run_ok 1024 29696 732841496213814422 721479841912212059 ck29 (by decide) ch28.1.symm
theorem ch29 : Y 30720 = 721479841912212059 ∧ ∀ i, 0 ≤ i → i < 30720 → ok i (Y i) = true :=
  ⟨cp29.1, fun i h0 h1 => if h : i < 29696 then ch28.2 i h0 h else cp29.2 i (by omega) h1⟩
theorem ck30 : run 1024 30720 721479841912212059 = 710294333733797381 := by decide +kernel
theorem cp30 : Y 31744 = 710294333733797381 ∧ ∀ i, 30720 ≤ i → i < 31744 → ok i (Y i) = true := run_ok 1024 30720 721479841912212059 710294333733797381 ck30 (by decide) ch29.1.symm
theorem ch30 : Y 31744 = 710294333733797381 ∧ ∀ i, 0 ≤ i → i < 31744 → ok i (Y i) = true :=
  ⟨cp30.1, fun i h0 h1 => if h : i < 30720 then ch29.2 i h0 h else cp30.2 i (by omega) h1⟩
theorem ck31 : run 1024 31744 710294333733797381 = 699282240786053278 := by decide +kernel
theorem cp31 : Y 32768 = 699282240786053278 ∧ ∀ i, 31744 ≤ i → i < 32768 → ok i (Y i) = true := run_ok 1024 31744 710294333733797381 699282240786053278 ck31 (by decide) ch30.1.symm
theorem ch31 : Y 32768 = 699282240786053278 ∧ ∀ i, 0 ≤ i → i < 32768 → ok i (Y i) = true :=
  ⟨cp31.1, fun i h0 h1 => if h : i < 31744 then ch30.2 i h0 h else cp31.2 i (by omega) h1⟩
theorem ck32 : run 1024 32768 699282240786053278 = 688440874515026817 := by decide +kernel
theorem cp32 : Y 33792 = 688440874515026817 ∧ ∀ i, 32768 ≤ i → i < 33792 → ok i (Y i) = true := run_ok 1024 32768 699282240786053278 688440874515026817 ck32 (by decide) ch31.1.symm
theorem ch32 : Y 33792 = 688440874515026817 ∧ ∀ i, 0 ≤ i → i < 33792 → ok i (Y i) = true :=
  ⟨cp32.1, fun i h0 h1 => if h : i < 32768 then ch31.2 i h0 h else cp32.2 i (by omega) h1⟩
theorem ck33 : run 1024 33792 688440874515026817 = 677767588048930675 := by decide +kernel
theorem cp33 : Y 34816 = 677767588048930675 ∧ ∀ i, 33792 ≤ i → i < 34816 → ok i (Y i) = true := run_ok 1024 33792 688440874515026817 677767588048930675 ck33 (by decide) ch32.1.symm
theorem ch33 : Y 34816 = 677767588048930675 ∧ ∀ i, 0 ≤ i → i < 34816 → ok i (Y i) = true :=
  ⟨cp33.1, fun i h0 h1 => if h : i < 33792 then ch32.2 i h0 h else cp33.2 i (by omega) h1⟩
theorem ck34 : run 1024 34816 677767588048930675 = 667259775551920967 := by decide +kernel
theorem cp34 : Y 35840 = 667259775551920967 ∧ ∀ i, 34816 ≤ i → i < 35840 → ok i (Y i) = true := run_ok 1024 34816 677767588048930675 667259775551920967 ck34 (by decide) ch33.1.symm
theorem ch34 : Y 35840 = 667259775551920967 ∧ ∀ i, 0 ≤ i → i < 35840 → ok i (Y i) = true :=
  ⟨cp34.1, fun i h0 h1 => if h : i < 34816 then ch33.2 i h0 h else cp34.2 i (by omega) h1⟩
theorem ck35 : run 1024 35840 667259775551920967 = 656914871587894011 := by decide +kernel
theorem cp35 : Y 36864 = 656914871587894011 ∧ ∀ i, 35840 ≤ i → i < 36864 → ok i (Y i) = true := run_ok 1024 35840 667259775551920967 656914871587894011 ck35 (by decide) ch34.1.symm
theorem ch35 : Y 36864 = 656914871587894011 ∧ ∀ i, 0 ≤ i → i < 36864 → ok i (Y i) = true :=
  ⟨cp35.1, fun i h0 h1 => if h : i < 35840 then ch34.2 i h0 h else cp35.2 i (by omega) h1⟩
theorem ck36 : run 1024 36864 656914871587894011 = 646730350494146342 := by decide +kernel
theorem cp36 : Y 37888 = 646730350494146342 ∧ ∀ i, 36864 ≤ i → i < 37888 → ok i (Y i) = true := run_ok 1024 36864 656914871587894011 646730350494146342 ck36 (by decide) ch35.1.symm
theorem ch36 : Y 37888 = 646730350494146342 ∧ ∀ i, 0 ≤ i → i < 37888 → ok i (Y i) = true :=
  ⟨cp36.1, fun i h0 h1 => if h : i < 36864 then ch35.2 i h0 h else cp36.2 i (by omega) h1⟩
theorem ck37 : run 1024 37888 646730350494146342 = 636703725764745347 := by decide +kernel
theorem cp37 : Y 38912 = 636703725764745347 ∧ ∀ i, 37888 ≤ i → i < 38912 → ok i (Y i) = true := run_ok 1024 37888 646730350494146342 636703725764745347 ck37 (by decide) ch36.1.symm
theorem ch37 : Y 38912 = 636703725764745347 ∧ ∀ i, 0 ≤ i → i < 38912 → ok i (Y i) = true :=
  ⟨cp37.1, fun i h0 h1 => if h : i < 37888 then ch36.2 i h0 h else cp37.2 i (by omega) h1⟩
theorem ck38 : run 1024 38912 636703725764745347 = 626832549443459733 := by decide +kernel
theorem cp38 : Y 39936 = 626832549443459733 ∧ ∀ i, 38912 ≤ i → i < 39936 → ok i (Y i) = true := run_ok 1024 38912 636703725764745347 626832549443459733 ck38 (by decide) ch37.1.symm
theorem ch38 : Y 39936 = 626832549443459733 ∧ ∀ i, 0 ≤ i → i < 39936 → ok i (Y i) = true :=
  ⟨cp38.1, fun i h0 h1 => if h : i < 38912 then ch37.2 i h0 h else cp38.2 i (by omega) h1⟩
theorem ck39 : run 1024 39936 626832549443459733 = 617114411526101927 := by decide +kernel
theorem cp39 : Y 40960 = 617114411526101927 ∧ ∀ i, 39936 ≤ i → i < 40960 → ok i (Y i) = true := run_ok 1024 39936 626832549443459733 617114411526101927 ck39 (by decide) ch38.1.symm
theorem ch39 : Y 40960 = 617114411526101927 ∧ ∀ i, 0 ≤ i → i < 40960 → ok i (Y i) = true :=
  ⟨cp39.1, fun i h0 h1 => if h : i < 39936 then ch38.2 i h0 h else cp39.2 i (by omega) h1⟩
theorem ck40 : run 1024 40960 617114411526101927 = 607546939372135993 := by decide +kernel
theorem cp40 : Y 41984 = 607546939372135993 ∧ ∀ i, 40960 ≤ i → i < 41984 → ok i (Y i) = true := run_ok 1024 40960 617114411526101927 607546939372135993 ck40 (by decide) ch39.1.symm
theorem ch40 : Y 41984 = 607546939372135993 ∧ ∀ i, 0 ≤ i → i < 41984 → ok i (Y i) = true :=
  ⟨cp40.1, fun i h0 h1 => if h : i < 40960 then ch39.2 i h0 h else cp40.2 i (by omega) h1⟩
theorem ck41 : run 1024 41984 607546939372135993 = 598127797125408084 := by decide +kernel
theorem cp41 : Y 43008 = 598127797125408084 ∧ ∀ i, 41984 ≤ i → i < 43008 → ok i (Y i) = true := run_ok 1024 41984 607546939372135993 598127797125408084 ck41 (by decide) ch40.1.symm
theorem ch41 : Y 43008 = 598127797125408084 ∧ ∀ i, 0 ≤ i → i < 43008 → ok i (Y i) = true :=
  ⟨cp41.1, fun i h0 h1 => if h : i < 41984 then ch40.2 i h0 h else cp41.2 i (by omega) h1⟩
theorem ck42 : run 1024 43008 598127797125408084 = 588854685143857332 := by decide +kernel
theorem cp42 : Y 44032 = 588854685143857332 ∧ ∀ i, 43008 ≤ i → i < 44032 → ok i (Y i) = true := run_ok 1024 43008 598127797125408084 588854685143857332 ck42 (by decide) ch41.1.symm
theorem ch42 : Y 44032 = 588854685143857332 ∧ ∀ i, 0 ≤ i → i < 44032 → ok i (Y i) = true :=
  ⟨cp42.1, fun i h0 h1 => if h : i < 43008 then ch41.2 i h0 h else cp42.2 i (by omega) h1⟩
theorem ck43 : run 1024 44032 588854685143857332 = 579725339438068463 := by decide +kernel
theorem cp43 : Y 45056 = 579725339438068463 ∧ ∀ i, 44032 ≤ i → i < 45056 → ok i (Y i) = true := run_ok 1024 44032 588854685143857332 579725339438068463 ck43 (by decide) ch42.1.symm
theorem ch43 : Y 45056 = 579725339438068463 ∧ ∀ i, 0 ≤ i → i < 45056 → ok i (Y i) = true :=
  ⟨cp43.1, fun i h0 h1 => if h : i < 44032 then ch42.2 i h0 h else cp43.2 i (by omega) h1⟩
theorem ck44 : run 370 45056 579725339438068463 = 576461575839750131 := by decide +kernel
theorem cp44 : Y 45426 = 576461575839750131 ∧ ∀ i, 45056 ≤ i → i < 45426 → ok i (Y i) = true := run_ok 370 45056 579725339438068463 576461575839750131 ck44 (by decide) ch43.1.symm
theorem ch44 : Y 45426 = 576461575839750131 ∧ ∀ i, 0 ≤ i → i < 45426 → ok i (Y i) = true :=
  ⟨cp44.1, fun i h0 h1 => if h : i < 45056 then ch43.2 i h0 h else cp44.2 i (by omega) h1⟩
theorem Y_last : Y 45426 = 576461575839750131 := ch44.1
theorem Y_ok (i : Nat) (h : i < 45426) : ok i (Y i) = true := ch44.2 i (Nat.zero_le i) h
end Go.Proofs.YtclaeamoflfjgaaDoor.Fix
