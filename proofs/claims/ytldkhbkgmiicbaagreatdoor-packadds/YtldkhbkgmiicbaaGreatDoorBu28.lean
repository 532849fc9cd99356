/- Texts of mine, put together. -/
import Derived.Test.YtldkhbkgmiicbaaGreatDoorBu27
import Derived.Defers
import Derived.Recover
import Derived.WalkLawsBesides
import Derived.Laws.Pointers

/- Keys: strings.IndexAny, strings.ContainsAny at the three bytes that no key has; the program's own isKey. -/
namespace Go.Proofs.YtldkhbkgmiicbaaGreatDoor
open Go.RowKit Go.Deep
set_option linter.unusedVariables false
set_option linter.unusedSimpArgs false

/-- a rune that is no ASCII takes bytes that are none -/
theorem decode_span (s : ByteArray) (pos : Nat) (h : pos < s.size) (ha : 128 ≤ (s[pos]'h).toNat) : pos + (Utf8.decode s pos).2 ≤ s.size ∧ ∀ j (hj : j < s.size), pos ≤ j → j < pos + (Utf8.decode s pos).2 → 128 ≤ (s[j]'hj).toNat := by
  have g : ∀ k (hk : pos + k < s.size), s.get! (pos + k) = s[pos + k]'hk := fun k hk => by
    show s.get! (pos + k) = _
    simp [ByteArray.get!, getElem!_pos, hk]
    rfl
  have hn : ¬ (s[pos]'h).toNat < 128 := by omega
  have one : pos + 1 ≤ s.size ∧ ∀ j (hj : j < s.size), pos ≤ j → j < pos + 1 → 128 ≤ (s[j]'hj).toNat := ⟨by omega, fun j hj h1 h2 => by
    obtain rfl : j = pos := by omega
    exact ha⟩
  have many : ∀ d, (∀ k, 1 ≤ k → k < d → (decide (pos + k < s.size) && (s.get! (pos + k)).toNat / 64 == 2) = true) → pos + d ≤ s.size + 1 → (1 < d → pos + d ≤ s.size) → ∀ j (hj : j < s.size), pos ≤ j → j < pos + d → 128 ≤ (s[j]'hj).toNat := by
    intro d hd _ _ j hj h1 h2
    obtain ⟨k, rfl⟩ : ∃ k, j = pos + k := ⟨j - pos, by omega⟩
    rcases Nat.eq_zero_or_pos k with rfl | hk
    · exact ha
    · have := hd k hk (by omega)
      rw [Bool.and_eq_true, beq_iff_eq, g k hj] at this
      have := this.2
      omega
  have lt : ∀ k, (decide (pos + k < s.size) && (s.get! (pos + k)).toNat / 64 == 2) = true → pos + k < s.size := fun k hk => by
    rw [Bool.and_eq_true, decide_eq_true_eq] at hk; exact hk.1
  simp only [Utf8.decode, get_at s pos h, hn, if_false]
  split
  · rename_i c
    rw [Bool.and_eq_true] at c
    have l1 := lt 1 c.2
    split
    · exact ⟨by show pos + 2 ≤ _; omega, many 2 (fun k h1 h2 => by
        obtain rfl : k = 1 := by omega
        exact c.2) (by omega) (by omega)⟩
    · exact one
  · split
    · rename_i c
      rw [Bool.and_eq_true, Bool.and_eq_true] at c
      have l1 := lt 1 c.1.2
      have l2 := lt 2 c.2
      split
      · exact ⟨by show pos + 3 ≤ _; omega, many 3 (fun k h1 h2 => by
          rcases (by omega : k = 1 ∨ k = 2) with rfl | rfl
          · exact c.1.2
          · exact c.2) (by omega) (by omega)⟩
      · exact one
    · split
      · rename_i c
        rw [Bool.and_eq_true, Bool.and_eq_true, Bool.and_eq_true] at c
        have l3 := lt 3 c.2
        split
        · exact ⟨by show pos + 4 ≤ _; omega, many 4 (fun k h1 h2 => by
            rcases (by omega : k = 1 ∨ k = 2 ∨ k = 3) with rfl | rfl | rfl
            · exact c.1.1.2
            · exact c.1.2
            · exact c.2) (by omega) (by omega)⟩
        · exact one
      · exact one
/-- the three bytes -/
def Px.nik : Px.B := [0, 10, 61]
theorem Px.nik_lt {b : UInt8} (h : Px.nik.contains b = true) : b.toNat < 128 := by
  rw [List.contains_eq_mem, decide_eq_true_eq] at h
  simp only [Px.nik, List.mem_cons, List.not_mem_nil, or_false] at h
  rcases h with rfl | rfl | rfl <;> decide
theorem rune_any (r : Nat) (h1 : 128 ≤ r) (h2 : r ≤ 2147483647) (w : World) : Calls Tryz.prog 171 #[.string ⟨#[0, 10, 61]⟩, .int .i32 (r : Int)] w fun e w' => e = .returned (.int .i64 (-1)) ∧ Bw w w' := by
  by_cases h : r = 65533
  · subst h; exact rune_err w
  · exact rune_high r h1 h2 h w
theorem rune_low (x : UInt8) (h : x.toNat < 128) (w : World) : Calls Tryz.prog 171 #[.string ⟨#[0, 10, 61]⟩, .int .i32 (x.toNat : Int)] w fun e w' => e = .returned (.int .i64 (Lib.indexByte Px.nik x)) ∧ w' = w :=
  (Any.strings_IndexRune_ascii (ρ := sx150_ren) { sx150 with } ⟨#[0, 10, 61]⟩ (x.toNat : Int) w (by omega) (by omega)).mono fun e w' ⟨h1, h2⟩ => ⟨by
    have hb : ((x.toNat : Int)).toNat.toUInt8 = x := by simp
    rw [h1, hb]; rfl, h2⟩
theorem use_any (n : Int) (w : World) : Calls Tryz.prog 172 #[.int .i64 n] w fun e w' => e = .returned (.bool (decide (8 < n))) ∧ w' = w :=
  Any.strings_shouldUseASCIISet (ρ := sx150_ren) { sx150 with } n w
set_option maxRecDepth 100000 in
set_option maxHeartbeats 1000000 in
theorem idx_short (s : ByteArray) (h8 : s.size ≤ 8) (w : World) :
    Calls Tryz.prog 163 #[.string s, .string ⟨#[0, 10, 61]⟩] w fun e w' => e = .returned (.int .i64 (Lib.indexAny s.data.toList Px.nik)) ∧ Bw w w' := by
  have h8z : decide ((8 : Int) < (s.size : Int)) = false := decide_eq_false (by omega)
  have hw0 : Bw w (w.iter s 0) := Below.alloc (Below.refl _ _) (Nat.le_refl _) _
  go_enter Tryz.func163, Tryz.ntmps163
  go_wp2_with (go_at_call 172; refine (use_any _ _).mono ?_; rintro e w' ⟨rfl, hw⟩; rw [hw, h8z])
  go_loopg [9, 10] s.size (fun g _ _ wx => ∃ i : Nat, i + g = s.size ∧ Hid (wx.heap[w.heap.size]? = some (.stringIter s i)) ∧ Bw w wx ∧ Hid (Lib.NoAny s.data.toList Px.nik i))
  case atStart => exact ⟨0, by omega, World.iter_heap w s 0, hw0, Lib.NoAny.zero _ _⟩
  case round =>
    obtain ⟨i, hig, hit, hbw, hno⟩ := hrel
    cases gk with
    | zero =>
      obtain rfl : i = s.size := by omega
      have hnx := fun ty => Lib.run_next_end_at (P := Tryz.prog) wr w.heap.size s s.size ty hit.out (by omega)
      go_wp2
      go_ret
      exact ⟨by rw [Lib.indexAny_none (by rw [← Lib.size_eq]; exact hno.out)]; rfl, hbw⟩
    | succ g =>
      have hi : i < s.size := by omega
      obtain ⟨x, hx⟩ : ∃ x : UInt8, s[i]'hi = x := ⟨_, rfl⟩
      have Hx : Hid (s.data.toList[i]? = some x) := by show _ = _; rw [← hx]; exact Lib.data_getElem? s i hi
      have hnx := fun ty => Lib.run_next_any_at (P := Tryz.prog) wr w.heap.size s i ty hit.out hi
      have hW : ∀ p, Hid (Bw w (wr.iterAt w.heap.size s p) ∧ (wr.iterAt w.heap.size s p).heap[w.heap.size]? = some (.stringIter s p)) := fun p => ⟨Lib.below_iterAt hbw (Nat.le_refl _) s p, Lib.iterAt_heap wr _ s i p hit.out⟩
      by_cases hlt : x.toNat < 128
      · have hdec := decode_ascii s i hi (by rw [hx]; exact hlt)
        rw [hx] at hdec
        rw [hdec] at hnx
        dsimp only at hnx
        obtain ⟨W, hWW⟩ : ∃ W, Hid (wr.iterAt w.heap.size s (i + 1) = W) := ⟨_, rfl⟩
        have hW1 := (hW (i + 1)).out
        rw [hWW.out] at hnx hW1
        clear hW hdec hx
        have hcon := Lib.contains_iff_indexByte Px.nik x
        cases hin : Px.nik.contains x
        · rw [hin] at hcon
          have hneg : ¬ ((0 : Int) ≤ Lib.indexByte Px.nik x) := of_decide_eq_false hcon.symm
          have hno2 : Hid (Lib.NoAny s.data.toList Px.nik (i + 1)) := hno.out.succ Hx.out hin
          clear hcon hin
          go_wp2_with (go_at_call 171; refine (rune_low x hlt _).mono ?_; rintro e w' ⟨rfl, hw⟩; rw [hw])
          go_roundg g
          case measure => omega
          case rel => exact ⟨i + 1, by omega, hW1.2, hW1.1, hno2⟩
        · rw [hin] at hcon
          have hpos : (0 : Int) ≤ Lib.indexByte Px.nik x := of_decide_eq_true hcon.symm
          have hans : Hid (Lib.indexAny s.data.toList Px.nik = (i : Int)) := Lib.indexAny_hit hno.out Hx.out hin
          clear hcon hin
          go_wp2_with (go_at_call 171; refine (rune_low x hlt _).mono ?_; rintro e w' ⟨rfl, hw⟩; rw [hw])
          go_ret
          exact ⟨by rw [hans.out]; rfl, hW1.1⟩
      · have hhi : 128 ≤ (s[i]'hi).toNat := by rw [hx]; omega
        have d1 := decode_high s i hi hhi
        have d2 := decode_le s i
        have d3 := decode_span s i hi hhi
        have hno2 : Hid (Lib.NoAny s.data.toList Px.nik (i + (Utf8.decode s i).2)) := fun j b hj hb => by
          rcases Nat.lt_or_ge j i with h | h
          · exact hno.out j b h hb
          · have hjs : j < s.size := by have := d3.1; omega
            have h4 := d3.2 j hjs h hj
            have h5 := Lib.data_getElem? s j hjs
            rw [hb, Option.some.injEq] at h5
            rw [← h5] at h4
            cases hin : Px.nik.contains b
            · rfl
            · have := Px.nik_lt hin; omega
        have d4 := d3.1
        clear d3 hx hlt hhi
        generalize (Utf8.decode s i).1 = r at hnx d1 d2
        generalize hd : (Utf8.decode s i).2 = d at hnx d1 hno2 d4
        clear hd
        obtain ⟨W, hWW⟩ : ∃ W, Hid (wr.iterAt w.heap.size s (i + d) = W) := ⟨_, rfl⟩
        have hW1 := (hW (i + d)).out
        rw [hWW.out] at hnx hW1
        clear hW
        go_wp2_with (go_at_call 171; refine (rune_any r d1.1 d2 _).mono ?_; rintro e w2 ⟨rfl, hw2⟩)
        go_roundg (s.size - (i + d))
        case measure => omega
        case rel => exact ⟨i + d, by omega, (hw2.block _ (Array.getElem?_eq_some_iff.1 hW1.2).1).trans hW1.2, hW1.1.trans hw2, hno2⟩
set_option maxRecDepth 100000 in
theorem info256 : (Tryz.prog.info? 205).map (fun i => (i.zero, i.size)) = some (some (.agg (Array.replicate 256 (.bool false))), 256) := by kernel_rfl
set_option maxRecDepth 100000 in
theorem idx_long (s : ByteArray) (h8 : 8 < s.size) (hs : s.size ≤ 32) (w : World) :
    Calls Tryz.prog 163 #[.string s, .string ⟨#[0, 10, 61]⟩] w fun e w' => e = .returned (.int .i64 (Lib.indexAny s.data.toList Px.nik)) ∧ Bw w w' :=
  (Any.strings_IndexAny_long (ρ := sx150_ren) { sx150 with } (zero_of_info info256).1 (zero_of_info info256).2 s ⟨#[0, 10, 61]⟩ w (by decide) h8 (by omega) (by decide) (fun j b hb => Px.nik_lt (by rw [List.contains_eq_mem, decide_eq_true_eq]; exact List.mem_of_getElem? hb))).mono fun e w' ⟨h1, h2⟩ => ⟨h1, by
    rw [h2]
    exact ((Below.refl _ _).alloc (Nat.le_refl _) _).alloc (by simp) _⟩
theorem idx_any (s : ByteArray) (hs : s.size ≤ 32) (w : World) :
    Calls Tryz.prog 163 #[.string s, .string ⟨#[0, 10, 61]⟩] w fun e w' => e = .returned (.int .i64 (Lib.indexAny s.data.toList Px.nik)) ∧ Bw w w' := by
  by_cases h : s.size ≤ 8
  · exact idx_short s h w
  · exact idx_long s (by omega) hs w
set_option maxHeartbeats 1000000 in
theorem cany_any (s : ByteArray) (hs : s.size ≤ 32) (w : World) :
    Calls Tryz.prog 155 #[.string s, .string ⟨#[0, 10, 61]⟩] w fun e w' => e = .returned (.bool (decide (0 ≤ Lib.indexAny s.data.toList Px.nik))) ∧ Bw w w' := by
  go_enter Tryz.func155, Tryz.ntmps155
  go_wp2_with (go_at_call 163; refine (idx_any s hs _).mono ?_; rintro e w1 ⟨rfl, hw1⟩)
  go_ret
  exact ⟨rfl, hw1⟩
theorem Px.none_any : ∀ l : Px.B, decide (0 ≤ Lib.indexAny l Px.nik) = !(l.all (fun c => c != 0 && c != 10 && c != 61)) := by
  intro l
  induction l with
  | nil => rfl
  | cons c l ih =>
    have hge := Lib.indexAny_ge Px.nik l
    rw [List.all_cons, Bool.not_and, ← ih]
    have hc : Px.nik.contains c = !(c != 0 && c != 10 && c != 61) := by
      rw [Bool.not_and, Bool.not_and, bne, bne, bne, Bool.not_not, Bool.not_not, Bool.not_not]
      show (c == 0 || (c == 10 || (c == 61 || false))) = _
      rw [Bool.or_false, Bool.or_assoc]
    rw [← hc]
    have hi : Lib.indexAny (c :: l) Px.nik = if Px.nik.contains c then 0 else if Lib.indexAny l Px.nik == -1 then -1 else Lib.indexAny l Px.nik + 1 := rfl
    rw [hi]
    cases h : Px.nik.contains c
    · rw [Bool.false_or, if_neg Bool.false_ne_true]
      by_cases h1 : Lib.indexAny l Px.nik = -1
      · rw [if_pos (by rw [h1]; rfl), h1]
      · rw [if_neg (by rw [beq_iff_eq]; exact h1), decide_eq_true (by omega), decide_eq_true (by omega)]
    · rw [if_pos rfl]; rfl
set_option maxHeartbeats 1000000 in
theorem iskey_any (s : ByteArray) (hs : s.size ≤ 140737488355328) (w : World) :
    Calls Tryz.prog 138 #[.string s] w fun e w' => e = .returned (.bool (Px.keyF s.toList)) ∧ Bw w w' := by
  obtain ⟨R, hR⟩ : ∃ R, Hid (Px.keyF s.toList = R) := ⟨_, rfl⟩
  rw [hR.out]
  have hl : Hid (s.toList.length = s.size) := Nm.size_toList s
  by_cases h0 : s.size = 0
  · have hr : Hid (R = false) := by
      show _ = _
      rw [← hR.out]
      unfold Px.keyF
      rw [hl.out, decide_eq_false (show ¬ 1 ≤ s.size by omega), Bool.and_false, Bool.false_and]
    have he : s.toList.isEmpty = true := by rw [List.isEmpty_iff, ← List.length_eq_zero_iff, hl.out]; exact h0
    clear h0
    go_enter Tryz.func138, Tryz.ntmps138
    go_wp2
    go_ret
    exact ⟨ret_bool hr.out.symm, Bw.refl _⟩
  · have he : s.toList.isEmpty = false := by
      cases h : s.toList.isEmpty
      · rfl
      · rw [List.isEmpty_iff, ← List.length_eq_zero_iff, hl.out] at h; exact absurd h h0
    by_cases h32 : s.size ≤ 32
    · have i32 : (s.size : Int) ≤ 32 := by omega
      have hr : Hid (R = !(decide (0 ≤ Lib.indexAny s.data.toList Px.nik))) := by
        show _ = _
        rw [← hR.out]
        unfold Px.keyF
        rw [hl.out, decide_eq_true (show 1 ≤ s.size by omega), decide_eq_true h32, Bool.and_true, Bool.and_true, ← Lib.toList_data, Px.none_any, Bool.not_not]
      clear h0
      obtain ⟨b, hb⟩ : ∃ b, Hid (decide (0 ≤ Lib.indexAny s.data.toList Px.nik) = b) := ⟨_, rfl⟩
      rw [hb.out] at hr
      go_enter Tryz.func138, Tryz.ntmps138
      go_wp2_with (go_at_call 155; refine (cany_any s h32 _).mono ?_; rintro e w1 ⟨rfl, hw1⟩; rw [hb.out])
      go_ret
      exact ⟨ret_bool hr.out.symm, hw1⟩
    · have i32 : ¬ (s.size : Int) ≤ 32 := by omega
      have hr : Hid (R = false) := by
        show _ = _
        rw [← hR.out]
        unfold Px.keyF
        rw [hl.out, decide_eq_false h32, Bool.and_false]
      clear h0
      go_enter Tryz.func138, Tryz.ntmps138
      go_wp2
      go_ret
      exact ⟨ret_bool hr.out.symm, Bw.refl _⟩
end Go.Proofs.YtldkhbkgmiicbaaGreatDoor

/- What is thrown: must, mustBePair; what is caught. -/
namespace Go.Proofs.YtldkhbkgmiicbaaGreatDoor
open Go.RowKit Go.Deep
set_option linter.unusedVariables false
set_option linter.unusedSimpArgs false

/-- how a call ends that throws an error but 0 -/
def thrown (er : Nat) : Ending := .panicked [{ v := .iface 25 (.int .i64 (er : Int)), recovered := false }]
set_option maxHeartbeats 1000000 in
theorem must_yes (t : Bool) (ht : t = true) (er : Int) (w : World) : Calls Tryz.prog 115 #[.bool t, .int .i64 er] w fun e w' => e = .returned (.tuple #[]) ∧ w' = w := by
  subst ht
  go_enter Tryz.func115, Tryz.ntmps115
  go_wp2
  refine bodyPost_end (results_none rfl _ _ _) rfl ?_
  exact ⟨rfl, rfl⟩
set_option maxHeartbeats 1000000 in
theorem must_no (t : Bool) (ht : t = false) (er : Nat) (x : Int) (hx : x = (er : Int)) (w : World) : Calls Tryz.prog 115 #[.bool t, .int .i64 x] w fun e w' => e = thrown er ∧ w' = w := by
  subst hx; subst ht
  go_enter Tryz.func115, Tryz.ntmps115
  go_wp2
  exact ⟨rfl, rfl, rfl⟩
theorem Px.fits_key {a b : Px.B} (h : Px.keyF a = false) : Px.fits (a, b) = 91 := by unfold Px.fits; rw [if_pos h]
theorem Px.fits_long {a b : Px.B} (h : Px.keyF a = true) (hb : 1024 < b.length) : Px.fits (a, b) = 2 := by unfold Px.fits; rw [if_neg (by rw [h]; exact fun h => by cases h), if_pos hb]
theorem Px.fits_good {a b : Px.B} (h : Px.keyF a = true) (hb : ¬ 1024 < b.length) : Px.fits (a, b) = 0 := by unfold Px.fits; rw [if_neg (by rw [h]; exact fun h => by cases h), if_neg hb]
/-- what asks that something hold: it returns, or throws -/
def Asks (er : Nat) (e : Ending) : Prop := er = 0 ∧ e = .returned (.tuple #[]) ∨ er ≠ 0 ∧ e = thrown er
set_option maxHeartbeats 1000000 in
theorem mbp_any (a b : ByteArray) (ha : a.size ≤ 140737488355328) (hb : b.size ≤ 140737488355328) (w : World) :
    Calls Tryz.prog 112 #[.agg #[.string a, .string b]] w fun e w' => Asks (Px.fits (a.toList, b.toList)) e ∧ Bw w w' := by
  have hw0 : Bw w (w.alloc (.cells #[.string a, .string b] 130)) := Below.alloc (Below.refl _ _) (Nat.le_refl _) _
  have HP : Hid (∀ W, Bw (w.alloc (.cells #[.string a, .string b] 130)) W → W.cell? ⟨w.heap.size, 0, none⟩ = some (.string a) ∧ W.cell? ⟨w.heap.size, 1, none⟩ = some (.string b)) := fun W h => by
    have g := (h.block _ (by simp)).trans (World.alloc_heap_new w (.cells #[.string a, .string b] 130))
    exact ⟨cell_of_row W _ 0 _ _ _ g, cell_of_row W _ 1 _ _ _ g⟩
  have hl : Hid (b.toList.length = b.size) := Nm.size_toList b
  by_cases hk : Px.keyF a.toList = true
  · have HK : Hid (Px.keyF a.toList = true) := hk
    have tok0 : Hid (w = w) := rfl
    have tok1 : Hid (w = w) := rfl
    by_cases hb2 : 1024 < b.size
    · have hF : Hid (Px.fits (a.toList, b.toList) = 2) := Px.fits_long hk (by rw [hl.out]; exact hb2)
      have i2 : ¬ (b.size : Int) ≤ 1024 := by omega
      clear hk
      rw [hF.out]
      go_enter Tryz.func112, Tryz.ntmps112
      go_wp2_with (first
        | (go_at_call 138; refine (iskey_any a ha _).mono ?_; rintro e w1 ⟨rfl, hw1⟩; rw [HK.out]; obtain ⟨c1, c2⟩ := HP.out w1 hw1)
        | (go_at_call 115; clear tok0; refine (must_yes _ (by first | rfl | exact decide_eq_true (by omega)) _ _).mono ?_; rintro e w2 ⟨rfl, hw2⟩; subst w2)
        | (go_at_call 115; clear tok1; refine (must_no _ (by first | rfl | exact decide_eq_false (by omega)) 2 2 rfl _).mono ?_; rintro e w3 ⟨rfl, hw3⟩; subst w3; unfold thrown))
      exact ⟨rfl, .inr ⟨by decide, rfl⟩, hw0.trans hw1⟩
    · have hF : Hid (Px.fits (a.toList, b.toList) = 0) := Px.fits_good hk (by rw [hl.out]; exact hb2)
      have i2 : (b.size : Int) ≤ 1024 := by omega
      clear hk
      rw [hF.out]
      go_enter Tryz.func112, Tryz.ntmps112
      go_wp2_with (first
        | (go_at_call 138; refine (iskey_any a ha _).mono ?_; rintro e w1 ⟨rfl, hw1⟩; rw [HK.out]; obtain ⟨c1, c2⟩ := HP.out w1 hw1)
        | (go_at_call 115; clear tok0; refine (must_yes _ (by first | rfl | exact decide_eq_true (by omega)) _ _).mono ?_; rintro e w2 ⟨rfl, hw2⟩; subst w2)
        | (go_at_call 115; clear tok1; refine (must_yes _ (by first | rfl | exact decide_eq_true (by omega)) _ _).mono ?_; rintro e w3 ⟨rfl, hw3⟩; subst w3))
      refine bodyPost_end (results_none rfl _ _ _) rfl ?_
      exact ⟨.inl ⟨rfl, rfl⟩, hw0.trans hw1⟩
  · have HK : Hid (Px.keyF a.toList = false) := by show _ = _; cases h : Px.keyF a.toList <;> simp_all
    have tok0 : Hid (w = w) := rfl
    have hF : Hid (Px.fits (a.toList, b.toList) = 91) := Px.fits_key HK.out
    clear hk
    rw [hF.out]
    go_enter Tryz.func112, Tryz.ntmps112
    go_wp2_with (first
      | (go_at_call 138; refine (iskey_any a ha _).mono ?_; rintro e w1 ⟨rfl, hw1⟩; rw [HK.out]; obtain ⟨c1, c2⟩ := HP.out w1 hw1)
      | (go_at_call 115; clear tok0; refine (must_no _ rfl 91 91 rfl _).mono ?_; rintro e w2 ⟨rfl, hw2⟩; subst w2; unfold thrown))
    exact ⟨rfl, .inr ⟨by decide, rfl⟩, hw0.trans hw1⟩
end Go.Proofs.YtldkhbkgmiicbaaGreatDoor

/- What is caught: the program's own caught. -/
namespace Go.Proofs.YtldkhbkgmiicbaaGreatDoor
open Go.RowKit Go.Deep
set_option linter.unusedVariables false
set_option linter.unusedSimpArgs false

theorem as_yes (v : Value) (W : World) : (Instr.typeAssert (.iface 25 v) 20 25 true).run Tryz.prog W = .ok (.tuple #[v, .bool true]) W := by kernel_rfl
theorem as_nil (W : World) : (Instr.typeAssert .nilIface 20 25 true).run Tryz.prog W = .ok (.tuple #[.int .i64 0, .bool false]) W := by kernel_rfl
theorem ne_nil (W : World) : (binOp .neq 20 .nilIface .nilIface).run Tryz.prog W = .ok (.bool false) W := by kernel_rfl
set_option maxHeartbeats 1000000 in
theorem catch_yes (p : Addr) (x : Int) (er : Nat) (w : World) (hc : w.cell? p = some (.int .i64 x)) (hz : w.frozen? p = false) :
    CallsD Tryz.prog 111 #[.pointer (some p)] (.panicking [{ v := .iface 25 (.int .i64 (er : Int)), recovered := false }]) w fun e u' w' =>
      e = .returned (.tuple #[]) ∧ u' = .panicking [{ v := .iface 25 (.int .i64 (er : Int)), recovered := true }] ∧ w' = w.setCell p (.int .i64 (er : Int)) := by
  refine callsD_of_wpS Tryz.func111 rfl fun c₀ cs hu => ?_
  apply wpS_seq
  apply wpS_region
  simp [wpOpsS, go_sem, recoverD, hu, Tryz.ntmps111, Exit.thenS]
  have hT : (#[Value.pointer (some p)] ++ (((Array.replicate 14 undef).setIfInBounds 3 (.iface 25 (.int .i64 (er : Int)))).setIfInBounds 0 (.iface 25 (.int .i64 (er : Int))))) = #[.pointer (some p), .iface 25 (.int .i64 (er : Int)), undef, undef, .iface 25 (.int .i64 (er : Int)), undef, undef, undef, undef, undef, undef, undef, undef, undef, undef] := by rfl
  rw [hT]
  clear hT
  refine wpS_of_wp ?_
  have h1 := as_yes (.int .i64 (er : Int))
  go_wp2
  simp [bodyPostS, results, Tryz.results111]
set_option maxHeartbeats 1000000 in
theorem catch_idle (p : Addr) (w : World) :
    CallsD Tryz.prog 111 #[.pointer (some p)] .returning w fun e u' w' => e = .returned (.tuple #[]) ∧ u' = .returning ∧ w' = w := by
  refine callsD_of_wpS Tryz.func111 rfl fun c₀ cs hu => ?_
  apply wpS_seq
  apply wpS_region
  simp [wpOpsS, go_sem, recoverD, hu, Tryz.ntmps111, Exit.thenS]
  have hT : (#[Value.pointer (some p)] ++ (((Array.replicate 14 undef).setIfInBounds 3 .nilIface).setIfInBounds 0 .nilIface)) = #[.pointer (some p), .nilIface, undef, undef, .nilIface, undef, undef, undef, undef, undef, undef, undef, undef, undef, undef] := by rfl
  rw [hT]
  clear hT
  refine wpS_of_wp ?_
  have h1 := as_nil
  have h2 := ne_nil
  go_wp2
  cases c₀
  simp_all [bodyPostS, results, Tryz.results111]
/-- caught: what the work does behind the variable err, and whether it throws -/
def Works (fn : FuncId) (cap : Array Value) (w : World) (R : Nat → World → Prop) : Prop :=
  Calls Tryz.prog fn cap (w.alloc (.cells #[.int .i64 0] 25)) fun e w' => ∃ er, Asks er e ∧ (w'.cell? ⟨w.heap.size, 0, none⟩ = some (.int .i64 0) ∧ w'.frozen? ⟨w.heap.size, 0, none⟩ = false) ∧ R er w'
set_option maxHeartbeats 1000000 in
theorem caught_any (fn : FuncId) (cap : Array Value) (w : World) (R : Nat → World → Prop) (he : ∀ args w, (callFunc fn args).run Tryz.prog w = .ok (.enter fn args) w) (hw : Works fn cap w R) :
    Calls Tryz.prog 83 #[.func (.func fn) #[] cap] w fun e w' => ∃ (er : Nat) (w1 : World), e = .returned (.int .i64 (er : Int)) ∧ R er w1 ∧ w' = w1.setCell ⟨w.heap.size, 0, none⟩ (.int .i64 (er : Int)) := by
  have hmf : ∀ (fn : Fn) (first cap : Array Value) (w : World), (Instr.makeFunc fn first cap).run Tryz.prog w = .ok (.func fn first cap) w := fun _ _ _ _ => rfl
  go_enter_defers Tryz.func83, Tryz.ntmps83
  unfold Works at hw
  go_wp2_with (go_at_fn fn; refine hw.mono ?_; rintro e w1 ⟨er, hA, ⟨hc, hz⟩, hR⟩; rcases hA with ⟨h0, rfl⟩ | ⟨h0, rfl⟩ <;> (try unfold thrown))
  · refine leaves_cons (f := 111) (args := #[.pointer (some ⟨w.heap.size, 0, none⟩)]) (by simp) (by simp [go_sem]) ?_
    refine (catch_idle ⟨w.heap.size, 0, none⟩ _).mono ?_
    rintro e u' w'' ⟨rfl, rfl, rfl⟩
    have hcc : (w1.setCell ⟨w.heap.size, 0, none⟩ (.int .i64 0)).cell? ⟨w.heap.size, 0, none⟩ = some (.int .i64 0) := World.cell?_setCell_same' _ _ _ (by rw [hc]; rfl)
    simp only [Leaves, settle]
    refine ⟨.int .i64 0, by simp [results, Tryz.results83, go_sem, hcc], er, w1, by rw [h0]; rfl, hR, by rw [h0]; rfl⟩
  · refine leaves_cons (f := 111) (args := #[.pointer (some ⟨w.heap.size, 0, none⟩)]) (by simp) (by simp [go_sem]) ?_
    refine (catch_yes ⟨w.heap.size, 0, none⟩ 0 er _ hc hz).mono ?_
    rintro e u' w'' ⟨rfl, rfl, rfl⟩
    have hcc : (w1.setCell ⟨w.heap.size, 0, none⟩ (.int .i64 (er : Int))).cell? ⟨w.heap.size, 0, none⟩ = some (.int .i64 (er : Int)) := World.cell?_setCell_same' _ _ _ (by rw [hc]; rfl)
    simp only [Leaves, settle, List.dropWhile]
    refine ⟨.int .i64 (er : Int), by simp [results, Tryz.results83, go_sem, hcc], er, w1, rfl, hR, rfl⟩
end Go.Proofs.YtldkhbkgmiicbaaGreatDoor
