/- Texts of mine, put together. -/
import Derived.Test.YtldkhbkgmiicbaaGreatDoorBu25
import Derived.Test.YtldkhbkgmiicbaaGreatDoorBu19
import Derived.Laws.Externs
import Derived.Lib.Bytealg
import Derived.Lib.IndexLaws
import Derived.Laws.ResultCell
import Derived.Stop.BytesEq
import Derived.Test.YtldkhbkgmiicbaaGreatDoorRows
import Derived.LaidMore
import Derived.LaidSub
import Derived.Lib.LaidTab
import Derived.Lib.ItoaNum
import Derived.Lib.SmallJoins
import Derived.Stop.Joined

/- The program's own hasNul, isType, isUpTo and mayBe, as landed at e169a841. -/
namespace Go.Proofs.YtldkhbkgmiicbaaGreatDoor
open Go.RowKit Go.Deep
set_option linter.unusedVariables false
set_option linter.unusedSimpArgs false

theorem ibs_any (s : ByteArray) (w : World) : (callFunc 147 #[.string s, .int .u8 0]).run Tryz.prog w = .ok (.value (.int .i64 (Lib.indexByte s.data.toList 0))) w := by
  rw [run_callFunc_extern (e := Extern.BytealgIndexByte.indexByte) Tryz.func147 (by kernel_rfl) (by kernel_rfl) (by kernel_rfl) (by kernel_rfl), Lib.run_indexByteString]
  rfl
theorem sib_any (s : ByteArray) (w : World) : Calls Tryz.prog 122 #[.string s, .int .u8 0] w fun e w' => e = .returned (.int .i64 (Lib.indexByte s.data.toList 0)) ∧ w' = w := by
  have hd := ibs_any s w
  go_enter Tryz.func122, Tryz.ntmps122
  go_wp2
  go_ret
  exact ⟨rfl, rfl⟩
theorem ib_any (s : ByteArray) (w : World) : Calls Tryz.prog 91 #[.string s, .int .u8 0] w fun e w' => e = .returned (.int .i64 (Lib.indexByte s.data.toList 0)) ∧ w' = w := by
  go_enter Tryz.func91, Tryz.ntmps91
  go_wp2_with (go_at_call 122; refine (sib_any _ _).mono ?_; rintro e w' ⟨rfl, hw'⟩; subst w')
  go_ret
  exact ⟨rfl, rfl⟩
theorem Hd.nul_ix (s : Hd.B) : (Hd.nul s = true → 0 ≤ Lib.indexByte s 0) ∧ (Hd.nul s = false → Lib.indexByte s 0 = -1) := by
  have hge := Lib.indexByte_ge s 0
  constructor
  · intro h
    obtain ⟨c, hc, he⟩ := List.any_eq_true.1 h
    rw [eq_of_beq he] at hc
    obtain ⟨k, hk⟩ := List.getElem?_of_mem hc
    by_cases h0 : Lib.indexByte s 0 = -1
    · exact absurd hk (Lib.indexByte_none h0 k)
    · omega
  · intro h
    by_cases h0 : 0 ≤ Lib.indexByte s 0
    · obtain ⟨j, hj⟩ : ∃ j : Nat, Lib.indexByte s 0 = j := ⟨(Lib.indexByte s 0).toNat, by omega⟩
      have := List.mem_of_getElem? (Lib.indexByte_some hj).1
      exact absurd this (Hd.nul_no h)
    · omega
theorem hnul_any (s : ByteArray) (w : World) : Calls Tryz.prog 69 #[.string s] w fun e w' => e = .returned (.bool (Hd.nul s.toList)) ∧ w' = w := by
  obtain ⟨x, hx⟩ : ∃ x, Hid (x = Lib.indexByte s.data.toList 0) := ⟨_, rfl⟩
  have e0 := Hd.nul_ix s.toList
  rw [ByteArray.toList_eq] at e0
  rw [← hx.out] at e0
  rw [ByteArray.toList_eq]
  cases hb : Hd.nul s.data.toList with
  | true =>
    have h1 := e0.1 hb
    clear e0
    go_enter Tryz.func69, Tryz.ntmps69
    go_wp2_with (go_at_call 91; refine (ib_any _ _).mono ?_; rintro e w' ⟨rfl, hw'⟩; subst w'; rw [← hx.out])
    go_ret
    exact ⟨rfl, rfl⟩
  | false =>
    have h1 : ¬ 0 ≤ x := by have := e0.2 hb; omega
    clear e0
    go_enter Tryz.func69, Tryz.ntmps69
    go_wp2_with (go_at_call 91; refine (ib_any _ _).mono ?_; rintro e w' ⟨rfl, hw'⟩; subst w'; rw [← hx.out])
    go_ret
    exact ⟨ret_bool (decide_eq_false (by omega)), rfl⟩
/-- one of the five types -/
def Hd.isT (c : Nat) : Prop := c = 48 ∨ c = 49 ∨ c = 50 ∨ c = 53 ∨ c = 120
theorem htype_yes (c : Nat) (h : Hd.isT c) (w : World) : Calls Tryz.prog 68 #[.int .u8 (c : Int)] w fun e w' => e = .returned (.bool true) ∧ w' = w := by
  rcases h with rfl | rfl | rfl | rfl | rfl
  all_goals
    go_enter Tryz.func68, Tryz.ntmps68
    go_wp2
    go_ret
    exact ⟨rfl, rfl⟩
theorem htype_no (c : Nat) (h : ¬ Hd.isT c) (w : World) : Calls Tryz.prog 68 #[.int .u8 (c : Int)] w fun e w' => e = .returned (.bool false) ∧ w' = w := by
  unfold Hd.isT at h
  have e1 : ((c : Int) == 48) = false := by rw [beq_eq_false_iff_ne]; omega
  have e2 : ((c : Int) == 49) = false := by rw [beq_eq_false_iff_ne]; omega
  have e3 : ((c : Int) == 50) = false := by rw [beq_eq_false_iff_ne]; omega
  have e4 : ((c : Int) == 53) = false := by rw [beq_eq_false_iff_ne]; omega
  have e5 : ((c : Int) == 120) = false := by rw [beq_eq_false_iff_ne]; omega
  clear h
  go_enter Tryz.func68, Tryz.ntmps68
  go_wp2
  go_ret
  exact ⟨rfl, rfl⟩
theorem hup_yes (n m : Int) (h : 0 ≤ n ∧ n ≤ m) (w : World) : Calls Tryz.prog 70 #[.int .i64 n, .int .i64 m] w fun e w' => e = .returned (.bool true) ∧ w' = w := by
  obtain ⟨h1, h2⟩ := h
  go_enter Tryz.func70, Tryz.ntmps70
  go_wp2
  go_ret
  exact ⟨rfl, rfl⟩
theorem hup_no (n m : Int) (h : n < 0 ∨ m < n) (w : World) : Calls Tryz.prog 70 #[.int .i64 n, .int .i64 m] w fun e w' => e = .returned (.bool false) ∧ w' = w := by
  by_cases h1 : 0 ≤ n
  · have h2 : ¬ n ≤ m := by omega
    go_enter Tryz.func70, Tryz.ntmps70
    go_wp2
    go_ret
    exact ⟨rfl, rfl⟩
  · go_enter Tryz.func70, Tryz.ntmps70
    go_wp2
    go_ret
    exact ⟨rfl, rfl⟩
/-- a head as a value -/
def Hd.hv (h : Hd.Hdr) : Array Value := #[.string (Hd.S h.name), .string (Hd.S h.pre), .int .i64 h.mode, .int .i64 h.size, .int .i64 h.time, .int .u8 ((h.typ.toNat : Nat) : Int), .string (Hd.S h.link)]
theorem Hd.typ_isT (c : UInt8) : (c = 48 ∨ c = 49 ∨ c = 50 ∨ c = 53 ∨ c = 120) ↔ Hd.isT c.toNat := by
  unfold Hd.isT
  have k : ∀ d : UInt8, c = d ↔ c.toNat = d.toNat := fun d => UInt8.toNat_inj.symm
  rw [k 48, k 49, k 50, k 53, k 120]
  rfl
set_option maxRecDepth 100000 in
set_option maxHeartbeats 4000000 in
theorem hmay_any (h : Hd.Hdr) (w : World) : Calls Tryz.prog 43 #[.agg (Hd.hv h)] w fun e w' => e = .returned (.int .i64 ((Hd.may h : Nat) : Int)) ∧ Bw w w' := by
  have hT := Hd.typ_isT h.typ
  obtain ⟨R, hR⟩ : ∃ R : Nat, Hid (R = Hd.may h) := ⟨_, rfl⟩
  have HR : R = Hd.may h := hR.out
  unfold Hd.may at HR
  unfold Hd.hv
  rw [← hR.out]
  clear hR
  obtain ⟨name, mode, size, time, typ, link, pre⟩ := h
  dsimp only at *
  have s1 := Hd.size_S name
  have s2 := Hd.size_S link
  have s3 := Hd.size_S pre
  have u1 := Hd.toList_S name
  have u2 := Hd.toList_S link
  have u3 := Hd.toList_S pre
  generalize Hd.S name = n at *
  generalize Hd.S link = k at *
  generalize Hd.S pre = p at *
  generalize typ.toNat = c at *
  rw [← s1, ← s2, ← s3, ← u1, ← u2, ← u3] at HR
  clear s1 s2 s3 u1 u2 u3
  have hbw : ∀ o : Obj, Bw w (w.alloc o) := fun o => bw_alloc7 (Bw.refl _) o
  by_cases hc : Hd.isT c
  · rw [if_neg (by rintro ⟨a1, a2, a3, a4, a5⟩; rcases hT.2 hc with e | e | e | e | e; exact a1 e; exact a2 e; exact a3 e; exact a4 e; exact a5 e)] at HR
    clear hT
    have HC : Hid (Hd.isT c) := hc
    clear hc
    by_cases hlong : n.size > 100 ∨ k.size > 100 ∨ p.size > 155
    · rw [if_pos hlong] at HR
      subst HR
      have done : Hid True := trivial
      by_cases a1 : 100 < (n.size : Int)
      · go_enter Tryz.func43, Tryz.ntmps43
        go_wp2_with (first | (go_at_call 68; refine (htype_yes _ HC.out _).mono ?_; rintro e w' ⟨rfl, hw'⟩; subst w'))
        go_ret
        exact ⟨rfl, hbw _⟩
      by_cases a2 : 100 < (k.size : Int)
      · go_enter Tryz.func43, Tryz.ntmps43
        go_wp2_with (first | (go_at_call 68; refine (htype_yes _ HC.out _).mono ?_; rintro e w' ⟨rfl, hw'⟩; subst w'))
        go_ret
        exact ⟨rfl, hbw _⟩
      · have a3 : 155 < (p.size : Int) := by omega
        go_enter Tryz.func43, Tryz.ntmps43
        go_wp2_with (first | (go_at_call 68; refine (htype_yes _ HC.out _).mono ?_; rintro e w' ⟨rfl, hw'⟩; subst w'))
        go_ret
        exact ⟨rfl, hbw _⟩
    · rw [if_neg hlong] at HR
      have a1 : ¬ 100 < (n.size : Int) := by omega
      have a2 : ¬ 100 < (k.size : Int) := by omega
      have a3 : ¬ 155 < (p.size : Int) := by omega
      clear hlong
      cases b1 : Hd.nul n.toList with
      | true =>
        rw [if_pos (.inl b1)] at HR
        subst HR
        go_enter Tryz.func43, Tryz.ntmps43
        go_wp2_with (first | (go_at_call 68; refine (htype_yes _ HC.out _).mono ?_; rintro e w' ⟨rfl, hw'⟩; subst w') | (go_at_call 69; refine (hnul_any _ _).mono ?_; rintro e w' ⟨rfl, hw'⟩; subst w'))
        go_ret
        exact ⟨rfl, hbw _⟩
      | false =>
      cases b2 : Hd.nul k.toList with
      | true =>
        rw [if_pos (.inr (.inl b2))] at HR
        subst HR
        go_enter Tryz.func43, Tryz.ntmps43
        go_wp2_with (first | (go_at_call 68; refine (htype_yes _ HC.out _).mono ?_; rintro e w' ⟨rfl, hw'⟩; subst w') | (go_at_call 69; refine (hnul_any _ _).mono ?_; rintro e w' ⟨rfl, hw'⟩; subst w'))
        go_ret
        exact ⟨rfl, hbw _⟩
      | false =>
      cases b3 : Hd.nul p.toList with
      | true =>
        rw [if_pos (.inr (.inr b3))] at HR
        subst HR
        go_enter Tryz.func43, Tryz.ntmps43
        go_wp2_with (first | (go_at_call 68; refine (htype_yes _ HC.out _).mono ?_; rintro e w' ⟨rfl, hw'⟩; subst w') | (go_at_call 69; refine (hnul_any _ _).mono ?_; rintro e w' ⟨rfl, hw'⟩; subst w'))
        go_ret
        exact ⟨rfl, hbw _⟩
      | false =>
        rw [if_neg (by rw [b1, b2, b3]; simp)] at HR
        by_cases hm : 0 ≤ mode ∧ mode ≤ 4095
        · have HM : Hid (0 ≤ mode ∧ mode ≤ 4095) := hm
          by_cases hs : 0 ≤ size ∧ size ≤ 8589934591
          · have HS : Hid (0 ≤ size ∧ size ≤ 8589934591) := hs
            by_cases ht : 0 ≤ time ∧ time ≤ 1099511627776
            · have HT : Hid (0 ≤ time ∧ time ≤ 1099511627776) := ht
              rw [if_neg (by omega)] at HR
              subst HR
              clear hm hs ht
              go_enter Tryz.func43, Tryz.ntmps43
              go_wp2_with (first | (go_at_call 68; refine (htype_yes _ HC.out _).mono ?_; rintro e w' ⟨rfl, hw'⟩; subst w') | (go_at_call 69; refine (hnul_any _ _).mono ?_; rintro e w' ⟨rfl, hw'⟩; subst w') | (go_at_call_of 70 mode; refine (hup_yes _ _ HM.out _).mono ?_; rintro e w' ⟨rfl, hw'⟩; subst w') | (go_at_call_of 70 size; refine (hup_yes _ _ HS.out _).mono ?_; rintro e w' ⟨rfl, hw'⟩; subst w') | (go_at_call_of 70 time; refine (hup_yes _ _ HT.out _).mono ?_; rintro e w' ⟨rfl, hw'⟩; subst w'))
              go_ret
              exact ⟨rfl, hbw _⟩
            · have HT : Hid (time < 0 ∨ 1099511627776 < time) := by show _ ∨ _; omega
              rw [if_pos (by omega)] at HR
              subst HR
              clear hm hs ht
              go_enter Tryz.func43, Tryz.ntmps43
              go_wp2_with (first | (go_at_call 68; refine (htype_yes _ HC.out _).mono ?_; rintro e w' ⟨rfl, hw'⟩; subst w') | (go_at_call 69; refine (hnul_any _ _).mono ?_; rintro e w' ⟨rfl, hw'⟩; subst w') | (go_at_call_of 70 mode; refine (hup_yes _ _ HM.out _).mono ?_; rintro e w' ⟨rfl, hw'⟩; subst w') | (go_at_call_of 70 size; refine (hup_yes _ _ HS.out _).mono ?_; rintro e w' ⟨rfl, hw'⟩; subst w') | (go_at_call_of 70 time; refine (hup_no _ _ HT.out _).mono ?_; rintro e w' ⟨rfl, hw'⟩; subst w'))
              go_ret
              exact ⟨rfl, hbw _⟩
          · have HS : Hid (size < 0 ∨ 8589934591 < size) := by show _ ∨ _; omega
            rw [if_pos (by omega)] at HR
            subst HR
            clear hm hs
            go_enter Tryz.func43, Tryz.ntmps43
            go_wp2_with (first | (go_at_call 68; refine (htype_yes _ HC.out _).mono ?_; rintro e w' ⟨rfl, hw'⟩; subst w') | (go_at_call 69; refine (hnul_any _ _).mono ?_; rintro e w' ⟨rfl, hw'⟩; subst w') | (go_at_call_of 70 mode; refine (hup_yes _ _ HM.out _).mono ?_; rintro e w' ⟨rfl, hw'⟩; subst w') | (go_at_call_of 70 size; refine (hup_no _ _ HS.out _).mono ?_; rintro e w' ⟨rfl, hw'⟩; subst w'))
            go_ret
            exact ⟨rfl, hbw _⟩
        · have HM : Hid (mode < 0 ∨ 4095 < mode) := by show _ ∨ _; omega
          rw [if_pos (by omega)] at HR
          subst HR
          clear hm
          go_enter Tryz.func43, Tryz.ntmps43
          go_wp2_with (first | (go_at_call 68; refine (htype_yes _ HC.out _).mono ?_; rintro e w' ⟨rfl, hw'⟩; subst w') | (go_at_call 69; refine (hnul_any _ _).mono ?_; rintro e w' ⟨rfl, hw'⟩; subst w') | (go_at_call_of 70 mode; refine (hup_no _ _ HM.out _).mono ?_; rintro e w' ⟨rfl, hw'⟩; subst w'))
          go_ret
          exact ⟨rfl, hbw _⟩
  · have HC : Hid (¬ Hd.isT c) := hc
    rw [if_pos (by refine ⟨fun e => hc (hT.1 (.inl e)), fun e => hc (hT.1 (.inr (.inl e))), fun e => hc (hT.1 (.inr (.inr (.inl e)))), fun e => hc (hT.1 (.inr (.inr (.inr (.inl e))))), fun e => hc (hT.1 (.inr (.inr (.inr (.inr e)))))⟩)] at HR
    subst HR
    clear hT hc
    go_enter Tryz.func43, Tryz.ntmps43
    go_wp2_with (go_at_call 68; refine (htype_no _ HC.out _).mono ?_; rintro e w' ⟨rfl, hw'⟩; subst w')
    go_ret
    exact ⟨rfl, hbw _⟩
end Go.Proofs.YtldkhbkgmiicbaaGreatDoor

/- The program's own taken, Sum, Seal, Blank and Full, as landed at e169a841. -/
namespace Go.Proofs.YtldkhbkgmiicbaaGreatDoor
open Go.RowKit Go.Deep
set_option linter.unusedVariables false
set_option linter.unusedSimpArgs false

theorem zeros_len : Hd.zeros.length = 512 := by unfold Hd.zeros; exact List.length_replicate
end Go.Proofs.YtldkhbkgmiicbaaGreatDoor

/- What Record, Put, Get and Over answer, in words that any program's answers can be told by. -/
namespace Go.Proofs.YtldkhbkgmiicbaaGreatDoor
open Go.RowKit Go.Deep
set_option linter.unusedVariables false
set_option linter.unusedSimpArgs false

namespace Px
/-- Record's answer -/
def recF (p : Pr) : B × Nat := if fits p ≠ 0 then ([], fits p) else (rcd p, 0)
end Px
theorem bw_of_drew {u w' : World} {q : Nat} (h : w' = u.drewN q) : Bw u w' := by rw [h]; exact Bw.drewN u q
theorem RowAt.front {w : World} {A : Option Addr} {a b : Px.B} (h : RowAt w A (a ++ b).length (Px.rowF (a ++ b))) : RowAt w A a.length (Px.rowF a) := by
  refine ⟨?_, Px.rowF_bd _⟩
  rcases h.1 with h0 | ⟨g, off, h1, h2⟩
  · rw [List.length_append] at h0; exact .inl (by omega)
  · refine .inr ⟨g, off, h1, fun i hi => ?_⟩
    rw [h2 i (by rw [List.length_append]; omega), Px.rowF_at (List.getElem?_eq_getElem hi), Px.rowF_at (c := a[i]) (by rw [List.getElem?_append_left hi, List.getElem?_eq_getElem hi])]
/-- bytes that a call answers -/
def RowIs (w : World) (v : Value) (b : Px.B) : Prop := ∃ A c, v = .slice A b.length c ∧ b.length ≤ c ∧ RowAt w A b.length (Px.rowF b)
/-- pairs that a call answers -/
def PrsIs (w : World) (v : Value) (L : List Px.Pr) : Prop := ∃ A c, v = .slice A L.length c ∧ L.length ≤ c ∧ PrsAt w A L
theorem RowIs.keep {w w' : World} {v : Value} {b : Px.B} (h : RowIs w v b) (k : Bw w w') : RowIs w' v b := by
  obtain ⟨A, c, h1, h2, h3⟩ := h
  exact ⟨A, c, h1, h2, h3.keep k⟩
theorem PrsIs.keep {w w' : World} {v : Value} {L : List Px.Pr} (h : PrsIs w v L) (k : Bw w w') : PrsIs w' v L := by
  obtain ⟨A, c, h1, h2, h3⟩ := h
  exact ⟨A, c, h1, h2, h3.keep k⟩
theorem rowis_own {w : World} {base : Nat} {v : Value} {b : Px.B} (h : w.ownsRow base 5 1 v b.length (Px.cellsB b)) : RowIs w v b := by
  rw [← Px.cellsU_rowF] at h
  obtain ⟨A, cap, h1, h2, -, h3, -⟩ := row_of_own (Px.rowF_bd b) h
  exact ⟨A, cap, h1, h2, h3⟩
def RecSays (p : Px.Pr) (e : Ending) (w' : World) : Prop := ∃ v, e = .returned (.tuple #[v, .int .i64 ((Px.recF p).2 : Int)]) ∧ RowIs w' v (Px.recF p).1
def PutSays (L : List Px.Pr) (e : Ending) (w' : World) : Prop := ∃ v, e = .returned (.tuple #[v, .int .i64 ((Px.putF L).2.1 : Int), .int .i64 ((Px.putF L).2.2 : Int)]) ∧ RowIs w' v (Px.putF L).1
def GetSays (b : Px.B) (e : Ending) (w' : World) : Prop := ∃ v, e = .returned (.tuple #[v, .int .i64 ((Px.getF b 0 []).2.1 : Int), .int .i64 ((Px.getF b 0 []).2.2 : Int)]) ∧ PrsIs w' v (Px.getF b 0 []).1
def OverSays (L M : List Px.Pr) (e : Ending) (w' : World) : Prop := ∃ v, e = .returned (.tuple #[v, .int .i64 ((Px.overF L M).2 : Int)]) ∧ PrsIs w' v (Px.overF L M).1
end Go.Proofs.YtldkhbkgmiicbaaGreatDoor

/- The library's own table of powers of ten: what the card's condition tells of it. -/
namespace Go.Proofs.YtldkhbkgmiicbaaGreatDoor
open Go.RowKit Go.Deep

/-- the powers of ten stand in the library's own table -/
def KAt (w : World) : Prop := Lib.TabIs Tryz.prog w "internal/strconv.uint64pow10" .u64 Lib.pow10Tab
theorem gK : ∃ g, Tryz.prog.globalNamed "internal/strconv.uint64pow10" = some g ∧ (Tryz.prog.globals[g]?).map (·.type) = some 210 := ⟨2, by kernel_rfl, by kernel_rfl⟩
theorem KAt.keep {w w' : World} (h : KAt w) (k : Bw w w') : KAt w' := by
  obtain ⟨g, hg, -⟩ := gK
  exact Joins.tab_stays hg h k (Nat.le_refl _)
def laidK : List (String × DataW Unit) := [("math/bits.deBruijn32tab", Rows.laid_math_bits_deBruijn32tab), ("math/bits.deBruijn64tab", Rows.laid_math_bits_deBruijn64tab), ("internal/strconv.uint64pow10", Rows.laid_internal_strconv_uint64pow10)]
end Go.Proofs.YtldkhbkgmiicbaaGreatDoor
