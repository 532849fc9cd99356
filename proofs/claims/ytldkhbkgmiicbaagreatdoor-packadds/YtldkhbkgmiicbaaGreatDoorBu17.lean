/- Texts of mine, put together. -/
import Derived.Test.YtldkhbkgmiicbaaGreatDoorBu16
import Derived.Laws.IdiomStrings
import Derived.Laws.AppendOwn
import Derived.RangeFuncRecord

/- The document's own Key (of tabularyref09). -/
namespace Go.Proofs.YtldkhbkgmiicbaaGreatDoor
open Go.RowKit Go.Deep
set_option linter.unusedVariables false
set_option linter.unusedSimpArgs false

namespace Px
def badB (c : UInt8) : Bool := c == 0 || c == 10 || c == 61
theorem key_bad {l : B} {k : Nat} {c : UInt8} (h : l[k]? = some c) (hb : badB c = true) : keyF l = false := by
  unfold keyF
  have hm : c ∈ l := List.mem_of_getElem? h
  have : (l.all fun c => c != 0 && c != 10 && c != 61) = false := by
    rw [List.all_eq_false]
    refine ⟨c, hm, ?_⟩
    unfold badB at hb
    simp only [Bool.or_eq_true, beq_iff_eq] at hb
    rcases hb with (rfl | rfl) | rfl <;> decide
  rw [this]; rfl
theorem key_good {l : B} (h : ∀ (j : Nat) (c : UInt8), l[j]? = some c → badB c = false) : keyF l = (decide (1 ≤ l.length) && decide (l.length ≤ 32)) := by
  unfold keyF
  have : (l.all fun c => c != 0 && c != 10 && c != 61) = true := by
    rw [List.all_eq_true]
    intro c hc
    obtain ⟨j, hj⟩ := List.getElem?_of_mem hc
    have := h j c hj
    unfold badB at this
    simp only [Bool.or_eq_false_iff, beq_eq_false_iff_ne] at this
    simp [this.1.1, this.1.2, this.2]
  rw [this, Bool.true_and]
end Px

set_option maxHeartbeats 1000000 in
theorem rkey_any (s : ByteArray) (hs : s.size ≤ 4611686018427387904) (w : World) :
    Calls Tryz.prog 123 #[.string s] w fun e w' => e = .returned (.bool (Px.keyF s.toList)) ∧ w' = w := by
  have HSZ : Hid (s.toList.length = s.size) := Nm.size_toList s
  go_enter Tryz.func123, Tryz.ntmps123
  go_wp2
  go_loop [2, 3] (fun r i => ∃ (k : Nat), k ≤ s.size ∧ r = .bool false ∧ i = .int .i64 (k : Int) ∧ Hid (∀ j c, j < k → s.toList[j]? = some c → Px.badB c = false)) (fun _ i => s.size - (intOf i).toNat)
  case atStart => exact ⟨0, Nat.zero_le _, rfl, rfl, fun j c hj => by omega⟩
  case round =>
    obtain ⟨k, hk, rfl, rfl, hall⟩ := hrel
    have k0 : (0 : Int) ≤ (k : Int) := Int.natCast_nonneg _
    by_cases hlt : k < s.size
    · have t1 : (k : Int) < (s.size : Int) := by omega
      have hg : Hid (s.toList[k]? = some s[k]) := by
        show _ = _
        rw [List.getElem?_eq_getElem (by rw [HSZ.out]; exact hlt), Nm.get_toList s k hlt (by rw [HSZ.out]; exact hlt)]
      have hbad : Hid (Px.badB s[k] = true → Px.keyF s.toList = false) := fun h => Px.key_bad hg.out h
      have hbb : ∀ n : Nat, n < 256 → (s[k].toNat = n ↔ s[k] = UInt8.ofNat n) := fun n hn => by
        constructor
        · intro h; apply UInt8.toNat_inj.1; rw [h, UInt8.toNat_ofNat']; omega
        · intro h; rw [h, UInt8.toNat_ofNat']; omega
      have HBB : Hid (∀ n : Nat, n < 256 → (s[k].toNat = n ↔ s[k] = UInt8.ofNat n)) := hbb
      clear hbb
      go_wp2
      · rename_i h1 _
        have e : s[k] = 0 := (HBB.out 0 (by omega)).1 h1
        go_ret
        exact ⟨ret_bool (hbad.out (by rw [e]; rfl)).symm, rfl⟩
      · rename_i _ h1 _
        have e : s[k] = 10 := (HBB.out 10 (by omega)).1 (by omega)
        go_ret
        exact ⟨ret_bool (hbad.out (by rw [e]; rfl)).symm, rfl⟩
      · rename_i a1 a2 h1 _
        have e : s[k] = 61 := (HBB.out 61 (by omega)).1 (by
          rcases h1 with (h | h) | h
          · have := eq_of_beq h; omega
          · have := eq_of_beq h; omega
          · have := eq_of_beq h; omega)
        go_ret
        exact ⟨ret_bool (hbad.out (by rw [e]; rfl)).symm, rfl⟩
      · rename_i a1 a2 h1
        have h3 : (s[k].toNat : Int) ≠ 61 := by have := h1.2; rwa [beq_eq_false_iff_ne] at this
        refine ⟨⟨k + 1, by omega, rfl, by go_num, fun j c hj hc => ?_⟩, by simp [intOf]; omega⟩
        rcases Nat.lt_or_ge j k with h | h
        · exact hall.out j c h hc
        · obtain rfl : j = k := by omega
          rw [hg.out] at hc
          obtain rfl := Option.some.inj hc
          unfold Px.badB
          simp only [Bool.or_eq_false_iff, beq_eq_false_iff_ne]
          exact ⟨⟨fun e => a1 ((HBB.out 0 (by omega)).2 e), fun e => a2 (by have := (HBB.out 10 (by omega)).2 e; omega)⟩, fun e => h3 (by have := (HBB.out 61 (by omega)).2 e; omega)⟩
    · have ek : k = s.size := by omega
      subst ek
      have hans : Hid (Px.keyF s.toList = (decide (1 ≤ s.size) && decide (s.size ≤ 32))) := by
        show _ = _
        rw [← HSZ.out]
        exact Px.key_good fun j c h => hall.out j c (by have := (List.getElem?_eq_some_iff.1 h).1; rw [HSZ.out] at this; exact this) h
      go_wp2
      · rename_i h1 _
        go_ret
        refine ⟨ret_bool ?_, rfl⟩
        rw [hans.out, decide_eq_true (show 1 ≤ s.size by omega), Bool.true_and]
        exact decide_eq_decide.2 (by omega)
      · rename_i _ h1
        go_ret
        refine ⟨ret_bool ?_, rfl⟩
        rw [hans.out, decide_eq_false (show ¬ 1 ≤ s.size by omega), Bool.false_and]

theorem conv_one (W : World) (d : Nat) (hd : d < 10) (z : Int) (hz : z = 48 + (d : Int)) :
    (convert 24 9 (.slice (some ⟨W.heap.size, 0, none⟩) 1 1)).run Tryz.prog (W.alloc (.cells #[.int .u8 z] 5)) = .ok (.string (Nm.S [UInt8.ofNat (48 + d)])) (W.alloc (.cells #[.int .u8 z] 5)) := by
  refine run_convert_bytes_back _ 24 9 5 ⟨W.heap.size, 0, none⟩ 1 [UInt8.ofNat (48 + d)] Tryz.underlying24 Tryz.underlying5 Tryz.underlying9 ?_
  intro j hj
  obtain rfl : j = 0 := by simpa using hj
  have h1 : ((UInt8.ofNat (48 + d)).toNat : Int) = z := by rw [Px.dig_nat hd, hz]; omega
  show _ = some (Value.int .u8 ((UInt8.ofNat (48 + d)).toNat : Int))
  rw [h1]
  simp [go_sem, Addr.add]
set_option maxRecDepth 100000 in
set_option maxHeartbeats 1000000 in
theorem rdecimal_any (n : Nat) (hn : n ≤ 4611686018427387904) (w : World) :
    Calls Tryz.prog 96 #[.int .i64 (n : Int)] w fun e w' => e = .returned (.string (Nm.S (Px.dec n))) ∧ Bw w w' := by
  go_enter Tryz.func96, Tryz.ntmps96
  go_wp2
  go_loopw [0, 3] (fun m t wr => ∃ (k : Nat) (X : ByteArray), k ≤ n ∧ m = .int .i64 (k : Int) ∧ t = .string X ∧ Hid (Nm.S (Px.dec n) = Nm.S (Px.dec k) ++ X) ∧ X.size ≤ 1 + (n - k) ∧ Bw w wr) (fun m _ _ => (intOf m).toNat)
  case atStart => exact ⟨n, ⟨#[]⟩, Nat.le_refl _, rfl, rfl, by show _ = _; rw [show (⟨#[]⟩ : ByteArray) = Nm.S [] from rfl, Nm.append_S, List.append_nil], Nat.zero_le _, Bw.refl _⟩
  case round =>
    obtain ⟨k, X, hk, rfl, rfl, hX, hXs, hwr⟩ := hrel
    have k0 : (0 : Int) ≤ (k : Int) := Int.natCast_nonneg _
    by_cases h10 : 9 < k
    · have t1 : (9 : Int) < (k : Int) := by omega
      have hcv := conv_one wr (k % 10) (by omega) (48 + (k : Int) % 10) (by omega)
      have hs1 : (Nm.S [UInt8.ofNat (48 + k % 10)]).size = 1 := by rw [Nm.size_S]; rfl
      obtain ⟨Y, hY⟩ : ∃ Y, Y = Nm.S [UInt8.ofNat (48 + k % 10)] := ⟨_, rfl⟩
      obtain ⟨Z, hZ⟩ : ∃ Z, Z = Y ++ X := ⟨_, rfl⟩
      rw [← hY] at hcv hs1
      have hrun : ∀ u : World, (Op.stringOp .add Y X).run Tryz.prog u = .ok (.string Z) u := fun u => by rw [run_string_add_sum _ _ _ (by omega), hZ]
      have hnx : Hid (Nm.S (Px.dec n) = Nm.S (Px.dec (k / 10)) ++ Z) := by
        show _ = _
        rw [hX.out, Px.dec_more (by omega), hZ, hY, ← Nm.append_S, ByteArray.append_assoc]
      have hzs : Hid (Z.size ≤ 1 + (n - k / 10)) := by show _ ≤ _; rw [hZ, ByteArray.size_append, hs1]; omega
      clear hY hZ
      go_wp2
      go_roundw
      case rel => exact ⟨k / 10, Z, by omega, by go_num, rfl, hnx, hzs.out, hwr.trans (Below.alloc (Below.refl _ _) (Nat.le_refl _) _)⟩
      case measure => simp [intOf]; omega
    · have t1 : (k : Int) ≤ 9 := by omega
      have hcv := conv_one wr k (by omega) (48 + (k : Int)) rfl
      have hs1 : (Nm.S [UInt8.ofNat (48 + k)]).size = 1 := by rw [Nm.size_S]; rfl
      obtain ⟨Y, hY⟩ : ∃ Y, Y = Nm.S [UInt8.ofNat (48 + k)] := ⟨_, rfl⟩
      obtain ⟨Z, hZ⟩ : ∃ Z, Z = Y ++ X := ⟨_, rfl⟩
      rw [← hY] at hcv hs1
      have hrun : ∀ u : World, (Op.stringOp .add Y X).run Tryz.prog u = .ok (.string Z) u := fun u => by rw [run_string_add_sum _ _ _ (by omega), hZ]
      have hnx : Hid (Nm.S (Px.dec n) = Z) := by
        show _ = _
        rw [hX.out, Px.dec_one (by omega), hZ, hY]
      clear hY hZ
      go_wp2
      go_ret
      exact ⟨by rw [hnx.out]; rfl, hwr.trans (Below.alloc (Below.refl _ _) (Nat.le_refl _) _)⟩

set_option maxHeartbeats 1000000 in
theorem rsize_any (a b : ByteArray) (ha : a.size ≤ 140737488355328) (hb : b.size ≤ 140737488355328) (w : World) :
    Calls Tryz.prog 97 #[.agg #[.string a, .string b]] w fun e w' => e = .returned (.int .i64 ((Px.psize (a.toList, b.toList) : Nat) : Int)) ∧ Bw w w' := by
  obtain ⟨r, hr⟩ : ∃ r, Hid (r = 3 + a.size + b.size) := ⟨_, rfl⟩
  have HP : Hid (Px.psize (a.toList, b.toList) = Px.size r) := by
    show _ = _
    unfold Px.psize
    rw [Nm.size_toList, Nm.size_toList, hr.out]
  go_enter Tryz.func97, Tryz.ntmps97
  have HB : Hid (Px.size r ≤ r + r + 2) := by
    show _ ≤ _
    have := Px.dl_le r
    unfold Px.size
    split <;> omega
  have hrb : r ≤ 281474976710659 := by have := hr.out; omega
  have hr2 : Hid ((3 : Int) + (a.size : Int) + (b.size : Int) = (r : Int)) := by show _ = _; have := hr.out; omega
  go_wp2
  rw [hr2.out]
  have hw1 : Bw w (w.alloc (.cells #[.string a, .string b] 130)) := Below.alloc (Below.refl _ _) (Nat.le_refl _) _
  go_loopw [4] (fun m wr => ∃ (k : Nat), r ≤ k ∧ k ≤ Px.size r ∧ m = .int .i64 (k : Int) ∧ Bw w wr) (fun m _ => Px.size r - (intOf m).toNat)
  case atStart => exact ⟨r, Nat.le_refl _, by have := Px.size_ge r; omega, rfl, hw1⟩
  case round =>
    obtain ⟨k, hk1, hk2, rfl, hwr⟩ := hrel
    have k0 : (0 : Int) ≤ (k : Int) := Int.natCast_nonneg _
    have kb : k ≤ 4611686018427387904 := by have := HB.out; omega
    have hsz : (Nm.S (Px.dec k)).size = Px.dl k := by rw [Nm.size_S, Px.dec_len]
    obtain ⟨X, hX⟩ : ∃ X, Hid (X = Nm.S (Px.dec k)) := ⟨_, rfl⟩
    rw [← hX.out] at hsz
    have hdl : Hid (Px.dl k ≤ k + 1) := Px.dl_le k
    obtain ⟨d, hd⟩ : ∃ d, Hid (d = Px.dl k) := ⟨_, rfl⟩
    rw [← hd.out] at hsz hdl
    by_cases he : k = r + d
    · have hans : Hid (Px.psize (a.toList, b.toList) = k) := by
        show _ = _
        rw [HP.out]
        exact Nat.le_antisymm (Px.size_least (by rw [← hd.out]; exact he)) hk2
      have e1 : ((k : Int) != (r : Int) + (d : Int)) = false := by rw [bne_eq_false_iff_eq]; omega
      have hdb : d ≤ 4611686018427387904 := by omega
      clear he
      go_wp2_with (go_at_call 96; refine (rdecimal_any k kb _).mono ?_; rintro e w2 ⟨rfl, hw2⟩; rw [← hX.out])
      go_ret
      exact ⟨ret_int (by rw [hans.out]), hwr.trans hw2⟩
    · have e1 : ((k : Int) != (r : Int) + (d : Int)) = true := by rw [bne_iff_ne]; omega
      have hdb : d ≤ 4611686018427387904 := by have := hdl.out; have := HB.out; omega
      have hlt : Hid (k + 1 ≤ Px.size r) := by
        show _ ≤ _
        rcases Nat.lt_or_ge k (Px.size r) with h | h
        · exact h
        · exfalso
          have hk : k = Px.size r := Nat.le_antisymm hk2 h
          have := Px.size_says r
          rw [← hk, ← hd.out] at this
          exact he this
      clear he
      go_wp2_with (go_at_call 96; refine (rdecimal_any k kb _).mono ?_; rintro e w2 ⟨rfl, hw2⟩; rw [← hX.out])
      go_roundw
      case rel => exact ⟨k + 1, by omega, hlt.out, by go_num, hwr.trans hw2⟩
      case measure => have := hlt.out; simp [intOf]; omega

set_option maxHeartbeats 1000000 in
theorem rfits_any (a b : ByteArray) (ha : a.size ≤ 140737488355328) (hb : b.size ≤ 140737488355328) (w : World) :
    Calls Tryz.prog 95 #[.agg #[.string a, .string b]] w fun e w' => e = .returned (.int .i64 ((Px.fits (a.toList, b.toList) : Nat) : Int)) ∧ Bw w w' := by
  have hw1 : Bw w (w.alloc (.cells #[.string a, .string b] 130)) := Below.alloc (Below.refl _ _) (Nat.le_refl _) _
  have HSZ : Hid (b.toList.length = b.size) := Nm.size_toList b
  obtain ⟨K, hK⟩ : ∃ K, Hid (K = Px.keyF a.toList) := ⟨_, rfl⟩
  have HF : Hid (Px.fits (a.toList, b.toList) = if K = false then 91 else if b.size > 1024 then 2 else 0) := by
    show _ = _
    unfold Px.fits
    dsimp only
    rw [← hK.out, HSZ.out]
  go_enter Tryz.func95, Tryz.ntmps95
  cases K with
  | false =>
    have hans : Hid (Px.fits (a.toList, b.toList) = 91) := by show _ = _; rw [HF.out, if_pos rfl]
    go_wp2_with (go_at_call 123; refine (rkey_any a (by omega) _).mono ?_; rintro e w2 ⟨rfl, rfl⟩; rw [← hK.out])
    go_ret
    exact ⟨ret_int (by rw [hans.out]; rfl), hw1⟩
  | true =>
    by_cases h1 : 1024 < b.size
    · have t1 : (1024 : Int) < (b.size : Int) := by omega
      have hans : Hid (Px.fits (a.toList, b.toList) = 2) := by show _ = _; rw [HF.out, if_neg (by simp), if_pos h1]
      go_wp2_with (go_at_call 123; refine (rkey_any a (by omega) _).mono ?_; rintro e w2 ⟨rfl, rfl⟩; rw [← hK.out])
      go_ret
      exact ⟨ret_int (by rw [hans.out]; rfl), hw1⟩
    · have t1 : (b.size : Int) ≤ 1024 := by omega
      have hans : Hid (Px.fits (a.toList, b.toList) = 0) := by show _ = _; rw [HF.out, if_neg (by simp), if_neg h1]
      go_wp2_with (go_at_call 123; refine (rkey_any a (by omega) _).mono ?_; rintro e w2 ⟨rfl, rfl⟩; rw [← hK.out])
      go_ret
      exact ⟨ret_int (by rw [hans.out]; rfl), hw1⟩
end Go.Proofs.YtldkhbkgmiicbaaGreatDoor

/- A text's bytes as a new row: '[]byte(s)'. -/
namespace Go.Proofs.YtldkhbkgmiicbaaGreatDoor
open Go.RowKit Go.Deep
set_option linter.unusedVariables false
set_option linter.unusedSimpArgs false

namespace Px
/-- a row of these bytes -/
def rowF (l : B) (i : Nat) : Int := ((l.getD i 0).toNat : Int)
theorem rowF_bd (l : B) (i : Nat) : 0 ≤ rowF l i ∧ rowF l i < 256 := by
  unfold rowF
  have := (l.getD i 0).toNat_lt
  omega
end Px
/-- the room that a text's bytes get, and the world behind '[]byte(s)' -/
def textCap (W : World) (s : ByteArray) : Nat := grownCap W s.size 0 5
def textW (W : World) (s : ByteArray) : World := W.drew.alloc (.cells (bytesRow s (textCap W s)) 5 ((bytesRow s (textCap W s)).size, (bytesRow s (textCap W s)).size + 1))
theorem conv_text (W : World) (s : ByteArray) : (convert 9 24 (.string s)).run Tryz.prog W = .ok (.slice (some ⟨W.heap.size, 0, none⟩) s.size (textCap W s)) (textW W s) :=
  run_bytes_of_string W 9 24 5 s Tryz.underlying9 Tryz.underlying24 Tryz.underlying5
theorem textCap_ge (W : World) (s : ByteArray) : s.size ≤ textCap W s := grownCap_ge W s.size 0 5
theorem textW_bw (W : World) (s : ByteArray) : Bw W (textW W s) := Below.alloc (Below.drew (Below.refl _ _)) (Nat.le_refl _) _
theorem textW_row (W : World) (s : ByteArray) : NewRow (textW W s) W.heap.size (some ⟨W.heap.size, 0, none⟩) s.size (Px.rowF s.toList) := by
  refine ⟨⟨.inr ⟨_, _, rfl, fun i hi => ?_⟩, Px.rowF_bd _⟩, .inr ⟨_, _, rfl, Nat.le_refl _, by simp [textW]⟩⟩
  have hb := bytesRow_at s (textCap W s) i hi
  have e : Px.rowF s.toList i = (s.data[i].toNat : Int) := by
    unfold Px.rowF
    rw [List.getD_eq_getElem?_getD, List.getElem?_eq_getElem (by rw [Nm.size_toList]; exact hi), ← Nm.get_toList s i hi (by rw [Nm.size_toList]; exact hi)]
    rfl
  rw [e, Nat.zero_add]
  have hn := World.alloc_heap_new W.drew (.cells (bytesRow s (textCap W s)) 5 ((bytesRow s (textCap W s)).size, (bytesRow s (textCap W s)).size + 1))
  have hz : W.drew.heap.size = W.heap.size := rfl
  rw [hz] at hn
  unfold textW World.cell?
  rw [hn]
  simp [hb]
end Go.Proofs.YtldkhbkgmiicbaaGreatDoor

/- The document's own Record (of tabularyref09). -/
namespace Go.Proofs.YtldkhbkgmiicbaaGreatDoor
open Go.RowKit Go.Deep
set_option linter.unusedVariables false

theorem keep_pr {w2 u v : World} {g : Nat} {a b : Value} (h : u.cell? ⟨g, 0, none⟩ = some a ∧ u.cell? ⟨g, 1, none⟩ = some b ∧ Bw w2 u) (k : Bw u v) : v.cell? ⟨g, 0, none⟩ = some a ∧ v.cell? ⟨g, 1, none⟩ = some b ∧ Bw w2 v :=
  ⟨(k.cell (p := ⟨g, 0, none⟩) (block_lt_of_cell h.1)).trans h.1, (k.cell (p := ⟨g, 1, none⟩) (block_lt_of_cell h.2.1)).trans h.2.1, h.2.2.trans k⟩
set_option maxHeartbeats 1000000 in
theorem rrecord_any (a b : ByteArray) (ha : a.size ≤ 140737488355328) (hb : b.size ≤ 140737488355328) (w : World) :
    Calls Tryz.prog 75 #[.agg #[.string a, .string b]] w fun e w' => Bw w w' ∧
      ((Px.fits (a.toList, b.toList) ≠ 0 ∧ e = .returned (.tuple #[.slice none 0 0, .int .i64 ((Px.fits (a.toList, b.toList) : Nat) : Int)])) ∨
       (Px.fits (a.toList, b.toList) = 0 ∧ ∃ A cap, e = .returned (.tuple #[.slice A (Px.rcd (a.toList, b.toList)).length cap, .int .i64 0]) ∧ (Px.rcd (a.toList, b.toList)).length ≤ cap ∧ NewRow w' w.heap.size A (Px.rcd (a.toList, b.toList)).length (Px.rowF (Px.rcd (a.toList, b.toList))))) := by
  have hw1 : Bw w (w.alloc (.cells #[.string a, .string b] 130)) := Below.alloc (Below.refl _ _) (Nat.le_refl _) _
  obtain ⟨E, hE⟩ : ∃ E, Hid (E = Px.fits (a.toList, b.toList)) := ⟨_, rfl⟩
  go_enter Tryz.func75, Tryz.ntmps75
  by_cases h0 : E = 0
  · subst h0
    have hp4 : Hid (Px.psize (a.toList, b.toList) ≤ 1064) := Px.psize_le hE.out.symm
    obtain ⟨n, hn⟩ : ∃ n, Hid (n = Px.psize (a.toList, b.toList)) := ⟨_, rfl⟩
    rw [← hn.out] at hp4
    have hnb : n ≤ 1064 := hp4.out
    obtain ⟨Y0, h0⟩ : ∃ Y, Hid (Y = Nm.S (Px.dec n)) := ⟨_, rfl⟩
    have hs0 : Y0.size ≤ 1065 := by rw [h0.out, Nm.size_S, Px.dec_len]; have := Px.dl_le n; omega
    obtain ⟨Y1, h1⟩ : ∃ Y, Hid (Y = Y0 ++ (⟨#[32]⟩ : ByteArray)) := ⟨_, rfl⟩
    have hs1 : Y1.size = Y0.size + 1 := by rw [h1.out, ByteArray.size_append]; rfl
    obtain ⟨Y2, h2⟩ : ∃ Y, Hid (Y = Y1 ++ a) := ⟨_, rfl⟩
    have hs2 : Y2.size = Y1.size + a.size := by rw [h2.out, ByteArray.size_append]
    obtain ⟨Y3, h3⟩ : ∃ Y, Hid (Y = Y2 ++ (⟨#[61]⟩ : ByteArray)) := ⟨_, rfl⟩
    have hs3 : Y3.size = Y2.size + 1 := by rw [h3.out, ByteArray.size_append]; rfl
    obtain ⟨Y4, h4⟩ : ∃ Y, Hid (Y = Y3 ++ b) := ⟨_, rfl⟩
    have hs4 : Y4.size = Y3.size + b.size := by rw [h4.out, ByteArray.size_append]
    obtain ⟨Y5, h5⟩ : ∃ Y, Hid (Y = Y4 ++ (⟨#[10]⟩ : ByteArray)) := ⟨_, rfl⟩
    have hr1 : ∀ u : World, (Op.stringOp .add Y0 ⟨#[32]⟩).run Tryz.prog u = .ok (.string Y1) u := fun u => by rw [run_string_add_sum _ _ _ (by rw [show (⟨#[32]⟩ : ByteArray).size = 1 from rfl]; omega), h1.out]
    have hr2 : ∀ u : World, (Op.stringOp .add Y1 a).run Tryz.prog u = .ok (.string Y2) u := fun u => by rw [run_string_add_sum _ _ _ (by omega), h2.out]
    have hr3 : ∀ u : World, (Op.stringOp .add Y2 ⟨#[61]⟩).run Tryz.prog u = .ok (.string Y3) u := fun u => by rw [run_string_add_sum _ _ _ (by rw [show (⟨#[61]⟩ : ByteArray).size = 1 from rfl]; omega), h3.out]
    have hr4 : ∀ u : World, (Op.stringOp .add Y3 b).run Tryz.prog u = .ok (.string Y4) u := fun u => by rw [run_string_add_sum _ _ _ (by omega), h4.out]
    have hr5 : ∀ u : World, (Op.stringOp .add Y4 ⟨#[10]⟩).run Tryz.prog u = .ok (.string Y5) u := fun u => by rw [run_string_add_sum _ _ _ (by rw [show (⟨#[10]⟩ : ByteArray).size = 1 from rfl]; omega), h5.out]
    have hcv : ∀ u : World, (convert 9 24 (.string Y5)).run Tryz.prog u = .ok (.slice (some ⟨u.heap.size, 0, none⟩) Y5.size (textCap u Y5)) (textW u Y5) := fun u => conv_text u Y5
    have hY : Hid (Y5.toList = Px.rcd (a.toList, b.toList)) := by
      show _ = _
      rw [h5.out, h4.out, h3.out, h2.out, h1.out, h0.out, ← Nm.S_toList a, ← Nm.S_toList b, show (⟨#[32]⟩ : ByteArray) = Nm.S [32] from rfl, show (⟨#[61]⟩ : ByteArray) = Nm.S [61] from rfl, show (⟨#[10]⟩ : ByteArray) = Nm.S [10] from rfl]
      simp only [Nm.append_S, Nm.toList_S]
      unfold Px.rcd
      rw [← hn.out]
      simp
    clear hs0 hs1 hs2 hs3 hs4
    go_wp2_with (go_at_call 95; refine (rfits_any a b ha hb _).mono ?_; rintro e w2 ⟨rfl, hw2⟩; rw [← hE.out])
    have hg0 : w2.heap[w.heap.size]? = some (.cells #[.string a, .string b] 130 (0, 0)) := (hw2.block _ (by simp)).trans (World.alloc_heap_new w _)
    have hg1 : w2.cell? ⟨w.heap.size, 0, none⟩ = some (.string a) := cell_of_row w2 _ 0 _ _ _ hg0
    have hg2 : w2.cell? ⟨w.heap.size, 1, none⟩ = some (.string b) := cell_of_row w2 _ 1 _ _ _ hg0
    go_region_held3 (fun w' => w'.cell? ⟨w.heap.size, 0, none⟩ = some (.string a) ∧ w'.cell? ⟨w.heap.size, 1, none⟩ = some (.string b) ∧ Bw w2 w')
      (first | exact ⟨hg1, hg2, Below.drew (Bw.refl _)⟩ | assumption | (exact keep_pr (by assumption) (by assumption)))
      (first
        | (go_at_call 97; refine (rsize_any a b ha hb _).mono ?_; rintro e w3 ⟨rfl, hw3⟩; rw [← hn.out])
        | (go_at_call 96; refine (rdecimal_any n (by omega) _).mono ?_; rintro e w4 ⟨rfl, hw4⟩; rw [← h0.out]))
    rename_i hSe
    have hw4 := hSe.2.2
    go_wp2
    go_ret2
    have hlen : (Px.rcd (a.toList, b.toList)).length = Y5.size := by rw [← hY.out, Nm.size_toList]
    have hww : Bw w w4 := (hw1.trans hw2).trans hw4
    have hrow := textW_row w4 Y5
    rw [hY.out] at hrow
    refine ⟨hww.trans (textW_bw w4 Y5), .inr ⟨hE.out.symm, some ⟨w4.heap.size, 0, none⟩, textCap w4 Y5, ?_, ?_, ?_⟩⟩
    · rw [hlen]; rfl
    · rw [hlen]; exact textCap_ge w4 Y5
    · rw [hlen]
      exact ⟨hrow.row, hrow.new.imp id fun ⟨g, o, h1, h2, h3⟩ => ⟨g, o, h1, Nat.le_trans hww.size h2, h3⟩⟩
  · have e1 : ((E : Int) != 0) = true := by rw [bne_iff_ne]; omega
    go_wp2_with (go_at_call 95; refine (rfits_any a b ha hb _).mono ?_; rintro e w2 ⟨rfl, hw2⟩; rw [← hE.out])
    go_ret2
    refine ⟨hw1.trans hw2, .inl ⟨by rw [← hE.out]; exact h0, ?_⟩⟩
    rw [← hE.out]
    rfl
end Go.Proofs.YtldkhbkgmiicbaaGreatDoor

/- Lists of pairs in memory; the document's own Find (of tabularyref09). -/
namespace Go.Proofs.YtldkhbkgmiicbaaGreatDoor
open Go.RowKit Go.Deep
set_option linter.unusedVariables false
set_option linter.unusedSimpArgs false

/-- a list of pairs in memory -/
def PrsAt (w : World) (A : Option Addr) (L : List Px.Pr) : Prop := L = [] ∨ ∃ b off, A = some ⟨b, off, none⟩ ∧ ∀ (i : Nat) (p : Px.Pr), L[i]? = some p → w.cell? ⟨b, off + i * 2, none⟩ = some (.string (Nm.S p.1)) ∧ w.cell? ⟨b, off + i * 2 + 1, none⟩ = some (.string (Nm.S p.2))
theorem PrsAt.keep {w w' : World} {A : Option Addr} {L : List Px.Pr} (h : PrsAt w A L) (g : Bw w w') : PrsAt w' A L := by
  rcases h with h | ⟨b, off, h1, h2⟩
  · exact .inl h
  · refine .inr ⟨b, off, h1, fun i p hp => ?_⟩
    obtain ⟨h3, h4⟩ := h2 i p hp
    have hb := block_lt_of_cell h3
    rw [g.cell (p := ⟨b, off + i * 2, none⟩) hb, g.cell (p := ⟨b, off + i * 2 + 1, none⟩) hb]
    exact ⟨h3, h4⟩
theorem PrsAt.at {w : World} {A : Option Addr} {L : List Px.Pr} (h : PrsAt w A L) (hne : 0 < L.length) : ∃ b off, A = some ⟨b, off, none⟩ ∧ ∀ (i : Nat) (p : Px.Pr), L[i]? = some p → w.cell? ⟨b, off + i * 2, none⟩ = some (.string (Nm.S p.1)) ∧ w.cell? ⟨b, off + i * 2 + 1, none⟩ = some (.string (Nm.S p.2)) := by
  rcases h with h | h
  · rw [h] at hne; simp at hne
  · exact h
namespace Px
theorem find_at {l : List Pr} {k : B} {i : Nat} {p : Pr} (h : l[i]? = some p) (hk : p.1 = k) (hno : ∀ (j : Nat) (q : Pr), j < i → l[j]? = some q → q.1 ≠ k) : find l k = some p.2 := by
  induction l generalizing i with
  | nil => simp at h
  | cons a l ih =>
    cases i with
    | zero =>
      simp at h
      subst h
      unfold find
      rw [if_pos hk]
    | succ i =>
      have ha := hno 0 a (by omega) rfl
      unfold find
      rw [if_neg ha]
      exact ih (by simpa using h) (fun j q hj hq => hno (j + 1) q (by omega) (by simpa using hq))
/-- what Find answers -/
def findE (l : List Pr) (k : B) : B × Nat := match find l k with | some v => (v, 0) | none => ([], 4)
theorem S_eql (a b : B) : ((Nm.S a).toList == (Nm.S b).toList) = decide (a = b) := by
  rw [Nm.toList_S, Nm.toList_S]
  by_cases h : a = b
  · subst h; simp
  · rw [decide_eq_false h, beq_eq_false_iff_ne]; exact h
end Px
end Go.Proofs.YtldkhbkgmiicbaaGreatDoor
