/- Texts of mine, put together. -/
import Derived.Test.YtldkhbkgmiicbabGreatDoorBu19
import Derived.Test.YtldkhbkgmiicbabGreatDoorBu14
import Derived.Laws.Externs
import Derived.Lib.Bytealg
import Derived.Lib.IndexLaws
import Derived.Laws.ResultCell
import Derived.Stop.BytesEq
import Derived.Test.YtldkhbkgmiicbabGreatDoorRows
import Derived.LaidMore
import Derived.LaidSub
import Derived.Lib.LaidTab
import Derived.Lib.ItoaNum
import Derived.Lib.SmallJoins
import Derived.Stop.Joined
import Derived.Shelf.Strconv.Itoa3
import Derived.Shelf.Strconv.AppendIntPublic10
import Derived.Shelf.Strings.IndexAnyAll
import Derived.Shelf.LaysM
import Derived.Test.YtldkhbkgmiicbabGreatDoorProg

/- The program's own hasNul, isType, isUpTo and mayBe, as landed at e169a841. -/
namespace Go.Proofs.YtldkhbkgmiicbabGreatDoor
open Go.RowKit Go.Deep
set_option linter.unusedVariables false
set_option linter.unusedSimpArgs false

theorem ibs_any (s : ByteArray) (w : World) : (callFunc 94 #[.string s, .int .u8 0]).run Tryz.prog w = .ok (.value (.int .i64 (Lib.indexByte s.data.toList 0))) w := by
  rw [run_callFunc_extern (e := Extern.BytealgIndexByte.indexByte) Tryz.func94 (by kernel_rfl) (by kernel_rfl) (by kernel_rfl) (by kernel_rfl), Lib.run_indexByteString]
  rfl
theorem sib_any (s : ByteArray) (w : World) : Calls Tryz.prog 84 #[.string s, .int .u8 0] w fun e w' => e = .returned (.int .i64 (Lib.indexByte s.data.toList 0)) ∧ w' = w := by
  have hd := ibs_any s w
  go_enter Tryz.func84, Tryz.ntmps84
  go_wp2
  go_ret
  exact ⟨rfl, rfl⟩
theorem ib_any (s : ByteArray) (w : World) : Calls Tryz.prog 66 #[.string s, .int .u8 0] w fun e w' => e = .returned (.int .i64 (Lib.indexByte s.data.toList 0)) ∧ w' = w := by
  go_enter Tryz.func66, Tryz.ntmps66
  go_wp2_with (go_at_call 84; refine (sib_any _ _).mono ?_; rintro e w' ⟨rfl, hw'⟩; subst w')
  go_ret
  exact ⟨rfl, rfl⟩
theorem Hd.nul_ix (s : Hd.B) : (Hd.nul s = true → 0 ≤ Lib.indexByte s 0) ∧ (Hd.nul s = false → Lib.indexByte s 0 = -1) := by
  have hge := Lib.indexByte_ge s 0
  constructor
  · intro h
    obtain ⟨c, hc, he⟩ := List.any_eq_true.1 h
    rw [eq_of_beq he] at hc
    obtain ⟨k, hk⟩ := List.getElem?_of_mem hc
    by_cases h0 : Lib.indexByte s 0 = -1
    · exact absurd hk (Lib.indexByte_none h0 k)
    · omega
  · intro h
    by_cases h0 : 0 ≤ Lib.indexByte s 0
    · obtain ⟨j, hj⟩ : ∃ j : Nat, Lib.indexByte s 0 = j := ⟨(Lib.indexByte s 0).toNat, by omega⟩
      have := List.mem_of_getElem? (Lib.indexByte_some hj).1
      exact absurd this (Hd.nul_no h)
    · omega
theorem hnul_any (s : ByteArray) (w : World) : Calls Tryz.prog 80 #[.string s] w fun e w' => e = .returned (.bool (Hd.nul s.toList)) ∧ w' = w := by
  obtain ⟨x, hx⟩ : ∃ x, Hid (x = Lib.indexByte s.data.toList 0) := ⟨_, rfl⟩
  have e0 := Hd.nul_ix s.toList
  rw [ByteArray.toList_eq] at e0
  rw [← hx.out] at e0
  rw [ByteArray.toList_eq]
  cases hb : Hd.nul s.data.toList with
  | true =>
    have h1 := e0.1 hb
    clear e0
    go_enter Tryz.func80, Tryz.ntmps80
    go_wp2_with (go_at_call 66; refine (ib_any _ _).mono ?_; rintro e w' ⟨rfl, hw'⟩; subst w'; rw [← hx.out])
    go_ret
    exact ⟨rfl, rfl⟩
  | false =>
    have h1 : ¬ 0 ≤ x := by have := e0.2 hb; omega
    clear e0
    go_enter Tryz.func80, Tryz.ntmps80
    go_wp2_with (go_at_call 66; refine (ib_any _ _).mono ?_; rintro e w' ⟨rfl, hw'⟩; subst w'; rw [← hx.out])
    go_ret
    exact ⟨ret_bool (decide_eq_false (by omega)), rfl⟩
/-- one of the five types -/
def Hd.isT (c : Nat) : Prop := c = 48 ∨ c = 49 ∨ c = 50 ∨ c = 53 ∨ c = 120
theorem htype_yes (c : Nat) (h : Hd.isT c) (w : World) : Calls Tryz.prog 79 #[.int .u8 (c : Int)] w fun e w' => e = .returned (.bool true) ∧ w' = w := by
  rcases h with rfl | rfl | rfl | rfl | rfl
  all_goals
    go_enter Tryz.func79, Tryz.ntmps79
    go_wp2
    go_ret
    exact ⟨rfl, rfl⟩
theorem htype_no (c : Nat) (h : ¬ Hd.isT c) (w : World) : Calls Tryz.prog 79 #[.int .u8 (c : Int)] w fun e w' => e = .returned (.bool false) ∧ w' = w := by
  unfold Hd.isT at h
  have e1 : ((c : Int) == 48) = false := by rw [beq_eq_false_iff_ne]; omega
  have e2 : ((c : Int) == 49) = false := by rw [beq_eq_false_iff_ne]; omega
  have e3 : ((c : Int) == 50) = false := by rw [beq_eq_false_iff_ne]; omega
  have e4 : ((c : Int) == 53) = false := by rw [beq_eq_false_iff_ne]; omega
  have e5 : ((c : Int) == 120) = false := by rw [beq_eq_false_iff_ne]; omega
  clear h
  go_enter Tryz.func79, Tryz.ntmps79
  go_wp2
  go_ret
  exact ⟨rfl, rfl⟩
theorem hup_yes (n m : Int) (h : 0 ≤ n ∧ n ≤ m) (w : World) : Calls Tryz.prog 81 #[.int .i64 n, .int .i64 m] w fun e w' => e = .returned (.bool true) ∧ w' = w := by
  obtain ⟨h1, h2⟩ := h
  go_enter Tryz.func81, Tryz.ntmps81
  go_wp2
  go_ret
  exact ⟨rfl, rfl⟩
theorem hup_no (n m : Int) (h : n < 0 ∨ m < n) (w : World) : Calls Tryz.prog 81 #[.int .i64 n, .int .i64 m] w fun e w' => e = .returned (.bool false) ∧ w' = w := by
  by_cases h1 : 0 ≤ n
  · have h2 : ¬ n ≤ m := by omega
    go_enter Tryz.func81, Tryz.ntmps81
    go_wp2
    go_ret
    exact ⟨rfl, rfl⟩
  · go_enter Tryz.func81, Tryz.ntmps81
    go_wp2
    go_ret
    exact ⟨rfl, rfl⟩
/-- a head as a value -/
def Hd.hv (h : Hd.Hdr) : Array Value := #[.string (Hd.S h.name), .string (Hd.S h.pre), .int .i64 h.mode, .int .i64 h.size, .int .i64 h.time, .int .u8 ((h.typ.toNat : Nat) : Int), .string (Hd.S h.link)]
theorem Hd.typ_isT (c : UInt8) : (c = 48 ∨ c = 49 ∨ c = 50 ∨ c = 53 ∨ c = 120) ↔ Hd.isT c.toNat := by
  unfold Hd.isT
  have k : ∀ d : UInt8, c = d ↔ c.toNat = d.toNat := fun d => UInt8.toNat_inj.symm
  rw [k 48, k 49, k 50, k 53, k 120]
  rfl
set_option maxRecDepth 100000 in
set_option maxHeartbeats 4000000 in
theorem hmay_any (h : Hd.Hdr) (w : World) : Calls Tryz.prog 63 #[.agg (Hd.hv h)] w fun e w' => e = .returned (.int .i64 ((Hd.may h : Nat) : Int)) ∧ Bw w w' := by
  have hT := Hd.typ_isT h.typ
  obtain ⟨R, hR⟩ : ∃ R : Nat, Hid (R = Hd.may h) := ⟨_, rfl⟩
  have HR : R = Hd.may h := hR.out
  unfold Hd.may at HR
  unfold Hd.hv
  rw [← hR.out]
  clear hR
  obtain ⟨name, mode, size, time, typ, link, pre⟩ := h
  dsimp only at *
  have s1 := Hd.size_S name
  have s2 := Hd.size_S link
  have s3 := Hd.size_S pre
  have u1 := Hd.toList_S name
  have u2 := Hd.toList_S link
  have u3 := Hd.toList_S pre
  generalize Hd.S name = n at *
  generalize Hd.S link = k at *
  generalize Hd.S pre = p at *
  generalize typ.toNat = c at *
  rw [← s1, ← s2, ← s3, ← u1, ← u2, ← u3] at HR
  clear s1 s2 s3 u1 u2 u3
  have hbw : ∀ o : Obj, Bw w (w.alloc o) := fun o => bw_alloc7 (Bw.refl _) o
  by_cases hc : Hd.isT c
  · rw [if_neg (by rintro ⟨a1, a2, a3, a4, a5⟩; rcases hT.2 hc with e | e | e | e | e; exact a1 e; exact a2 e; exact a3 e; exact a4 e; exact a5 e)] at HR
    clear hT
    have HC : Hid (Hd.isT c) := hc
    clear hc
    by_cases hlong : n.size > 100 ∨ k.size > 100 ∨ p.size > 155
    · rw [if_pos hlong] at HR
      subst HR
      have done : Hid True := trivial
      by_cases a1 : 100 < (n.size : Int)
      · go_enter Tryz.func63, Tryz.ntmps63
        go_wp2_with (first | (go_at_call 79; refine (htype_yes _ HC.out _).mono ?_; rintro e w' ⟨rfl, hw'⟩; subst w'))
        go_ret
        exact ⟨rfl, hbw _⟩
      by_cases a2 : 100 < (k.size : Int)
      · go_enter Tryz.func63, Tryz.ntmps63
        go_wp2_with (first | (go_at_call 79; refine (htype_yes _ HC.out _).mono ?_; rintro e w' ⟨rfl, hw'⟩; subst w'))
        go_ret
        exact ⟨rfl, hbw _⟩
      · have a3 : 155 < (p.size : Int) := by omega
        go_enter Tryz.func63, Tryz.ntmps63
        go_wp2_with (first | (go_at_call 79; refine (htype_yes _ HC.out _).mono ?_; rintro e w' ⟨rfl, hw'⟩; subst w'))
        go_ret
        exact ⟨rfl, hbw _⟩
    · rw [if_neg hlong] at HR
      have a1 : ¬ 100 < (n.size : Int) := by omega
      have a2 : ¬ 100 < (k.size : Int) := by omega
      have a3 : ¬ 155 < (p.size : Int) := by omega
      clear hlong
      cases b1 : Hd.nul n.toList with
      | true =>
        rw [if_pos (.inl b1)] at HR
        subst HR
        go_enter Tryz.func63, Tryz.ntmps63
        go_wp2_with (first | (go_at_call 79; refine (htype_yes _ HC.out _).mono ?_; rintro e w' ⟨rfl, hw'⟩; subst w') | (go_at_call 80; refine (hnul_any _ _).mono ?_; rintro e w' ⟨rfl, hw'⟩; subst w'))
        go_ret
        exact ⟨rfl, hbw _⟩
      | false =>
      cases b2 : Hd.nul k.toList with
      | true =>
        rw [if_pos (.inr (.inl b2))] at HR
        subst HR
        go_enter Tryz.func63, Tryz.ntmps63
        go_wp2_with (first | (go_at_call 79; refine (htype_yes _ HC.out _).mono ?_; rintro e w' ⟨rfl, hw'⟩; subst w') | (go_at_call 80; refine (hnul_any _ _).mono ?_; rintro e w' ⟨rfl, hw'⟩; subst w'))
        go_ret
        exact ⟨rfl, hbw _⟩
      | false =>
      cases b3 : Hd.nul p.toList with
      | true =>
        rw [if_pos (.inr (.inr b3))] at HR
        subst HR
        go_enter Tryz.func63, Tryz.ntmps63
        go_wp2_with (first | (go_at_call 79; refine (htype_yes _ HC.out _).mono ?_; rintro e w' ⟨rfl, hw'⟩; subst w') | (go_at_call 80; refine (hnul_any _ _).mono ?_; rintro e w' ⟨rfl, hw'⟩; subst w'))
        go_ret
        exact ⟨rfl, hbw _⟩
      | false =>
        rw [if_neg (by rw [b1, b2, b3]; simp)] at HR
        by_cases hm : 0 ≤ mode ∧ mode ≤ 4095
        · have HM : Hid (0 ≤ mode ∧ mode ≤ 4095) := hm
          by_cases hs : 0 ≤ size ∧ size ≤ 8589934591
          · have HS : Hid (0 ≤ size ∧ size ≤ 8589934591) := hs
            by_cases ht : 0 ≤ time ∧ time ≤ 1099511627776
            · have HT : Hid (0 ≤ time ∧ time ≤ 1099511627776) := ht
              rw [if_neg (by omega)] at HR
              subst HR
              clear hm hs ht
              go_enter Tryz.func63, Tryz.ntmps63
              go_wp2_with (first | (go_at_call 79; refine (htype_yes _ HC.out _).mono ?_; rintro e w' ⟨rfl, hw'⟩; subst w') | (go_at_call 80; refine (hnul_any _ _).mono ?_; rintro e w' ⟨rfl, hw'⟩; subst w') | (go_at_call_of 81 mode; refine (hup_yes _ _ HM.out _).mono ?_; rintro e w' ⟨rfl, hw'⟩; subst w') | (go_at_call_of 81 size; refine (hup_yes _ _ HS.out _).mono ?_; rintro e w' ⟨rfl, hw'⟩; subst w') | (go_at_call_of 81 time; refine (hup_yes _ _ HT.out _).mono ?_; rintro e w' ⟨rfl, hw'⟩; subst w'))
              go_ret
              exact ⟨rfl, hbw _⟩
            · have HT : Hid (time < 0 ∨ 1099511627776 < time) := by show _ ∨ _; omega
              rw [if_pos (by omega)] at HR
              subst HR
              clear hm hs ht
              go_enter Tryz.func63, Tryz.ntmps63
              go_wp2_with (first | (go_at_call 79; refine (htype_yes _ HC.out _).mono ?_; rintro e w' ⟨rfl, hw'⟩; subst w') | (go_at_call 80; refine (hnul_any _ _).mono ?_; rintro e w' ⟨rfl, hw'⟩; subst w') | (go_at_call_of 81 mode; refine (hup_yes _ _ HM.out _).mono ?_; rintro e w' ⟨rfl, hw'⟩; subst w') | (go_at_call_of 81 size; refine (hup_yes _ _ HS.out _).mono ?_; rintro e w' ⟨rfl, hw'⟩; subst w') | (go_at_call_of 81 time; refine (hup_no _ _ HT.out _).mono ?_; rintro e w' ⟨rfl, hw'⟩; subst w'))
              go_ret
              exact ⟨rfl, hbw _⟩
          · have HS : Hid (size < 0 ∨ 8589934591 < size) := by show _ ∨ _; omega
            rw [if_pos (by omega)] at HR
            subst HR
            clear hm hs
            go_enter Tryz.func63, Tryz.ntmps63
            go_wp2_with (first | (go_at_call 79; refine (htype_yes _ HC.out _).mono ?_; rintro e w' ⟨rfl, hw'⟩; subst w') | (go_at_call 80; refine (hnul_any _ _).mono ?_; rintro e w' ⟨rfl, hw'⟩; subst w') | (go_at_call_of 81 mode; refine (hup_yes _ _ HM.out _).mono ?_; rintro e w' ⟨rfl, hw'⟩; subst w') | (go_at_call_of 81 size; refine (hup_no _ _ HS.out _).mono ?_; rintro e w' ⟨rfl, hw'⟩; subst w'))
            go_ret
            exact ⟨rfl, hbw _⟩
        · have HM : Hid (mode < 0 ∨ 4095 < mode) := by show _ ∨ _; omega
          rw [if_pos (by omega)] at HR
          subst HR
          clear hm
          go_enter Tryz.func63, Tryz.ntmps63
          go_wp2_with (first | (go_at_call 79; refine (htype_yes _ HC.out _).mono ?_; rintro e w' ⟨rfl, hw'⟩; subst w') | (go_at_call 80; refine (hnul_any _ _).mono ?_; rintro e w' ⟨rfl, hw'⟩; subst w') | (go_at_call_of 81 mode; refine (hup_no _ _ HM.out _).mono ?_; rintro e w' ⟨rfl, hw'⟩; subst w'))
          go_ret
          exact ⟨rfl, hbw _⟩
  · have HC : Hid (¬ Hd.isT c) := hc
    rw [if_pos (by refine ⟨fun e => hc (hT.1 (.inl e)), fun e => hc (hT.1 (.inr (.inl e))), fun e => hc (hT.1 (.inr (.inr (.inl e)))), fun e => hc (hT.1 (.inr (.inr (.inr (.inl e))))), fun e => hc (hT.1 (.inr (.inr (.inr (.inr e)))))⟩)] at HR
    subst HR
    clear hT hc
    go_enter Tryz.func63, Tryz.ntmps63
    go_wp2_with (go_at_call 79; refine (htype_no _ HC.out _).mono ?_; rintro e w' ⟨rfl, hw'⟩; subst w')
    go_ret
    exact ⟨rfl, hbw _⟩
end Go.Proofs.YtldkhbkgmiicbabGreatDoor

/- The program's own taken, Sum, Seal, Blank and Full, as landed at e169a841. -/
namespace Go.Proofs.YtldkhbkgmiicbabGreatDoor
open Go.RowKit Go.Deep
set_option linter.unusedVariables false
set_option linter.unusedSimpArgs false

theorem wpList_built10 {P : Program} {ops : Array Oper} {rest : List Oper} {o : Oper} {a : Act} {w : World} {Q : Exit → Act → World → Prop} (hg : o.guard = none) (t : TypeId) (parts : Array (Nat × Operand)) (ho : o.op = .build t parts)
    (cells : Array Value) (hb : P.built t (parts.map fun (i, x) => (i, a.eval x)).toList = some cells)
    (h : wpList P ops Q rest (a.put o.dst (.agg cells)) w) : wpList P ops Q (o :: rest) a w :=
  wpList_build hg t parts ho (by rw [hb]; rfl) (by rw [hb]; exact h)
theorem zeros_len : Hd.zeros.length = 512 := by unfold Hd.zeros; exact List.length_replicate
end Go.Proofs.YtldkhbkgmiicbabGreatDoor

/- What Record, Put, Get and Over answer, in words that any program's answers can be told by. -/
namespace Go.Proofs.YtldkhbkgmiicbabGreatDoor
open Go.RowKit Go.Deep
set_option linter.unusedVariables false
set_option linter.unusedSimpArgs false

namespace Px
/-- Record's answer -/
def recF (p : Pr) : B × Nat := if fits p ≠ 0 then ([], fits p) else (rcd p, 0)
end Px
theorem bw_of_drew {u w' : World} {q : Nat} (h : w' = u.drewN q) : Bw u w' := by rw [h]; exact Bw.drewN u q
theorem RowAt.front {w : World} {A : Option Addr} {a b : Px.B} (h : RowAt w A (a ++ b).length (Px.rowF (a ++ b))) : RowAt w A a.length (Px.rowF a) := by
  refine ⟨?_, Px.rowF_bd _⟩
  rcases h.1 with h0 | ⟨g, off, h1, h2⟩
  · rw [List.length_append] at h0; exact .inl (by omega)
  · refine .inr ⟨g, off, h1, fun i hi => ?_⟩
    rw [h2 i (by rw [List.length_append]; omega), Px.rowF_at (List.getElem?_eq_getElem hi), Px.rowF_at (c := a[i]) (by rw [List.getElem?_append_left hi, List.getElem?_eq_getElem hi])]
/-- bytes that a call answers -/
def RowIs (w : World) (v : Value) (b : Px.B) : Prop := ∃ A c, v = .slice A b.length c ∧ b.length ≤ c ∧ RowAt w A b.length (Px.rowF b)
/-- pairs that a call answers -/
def PrsIs (w : World) (v : Value) (L : List Px.Pr) : Prop := ∃ A c, v = .slice A L.length c ∧ L.length ≤ c ∧ PrsAt w A L
theorem RowIs.keep {w w' : World} {v : Value} {b : Px.B} (h : RowIs w v b) (k : Bw w w') : RowIs w' v b := by
  obtain ⟨A, c, h1, h2, h3⟩ := h
  exact ⟨A, c, h1, h2, h3.keep k⟩
theorem PrsIs.keep {w w' : World} {v : Value} {L : List Px.Pr} (h : PrsIs w v L) (k : Bw w w') : PrsIs w' v L := by
  obtain ⟨A, c, h1, h2, h3⟩ := h
  exact ⟨A, c, h1, h2, h3.keep k⟩
theorem rowis_own {w : World} {base : Nat} {v : Value} {b : Px.B} (h : w.ownsRow base 5 1 v b.length (Px.cellsB b)) : RowIs w v b := by
  rw [← Px.cellsU_rowF] at h
  obtain ⟨A, cap, h1, h2, -, h3, -⟩ := row_of_own (Px.rowF_bd b) h
  exact ⟨A, cap, h1, h2, h3⟩
def RecSays (p : Px.Pr) (e : Ending) (w' : World) : Prop := ∃ v, e = .returned (.tuple #[v, .int .i64 ((Px.recF p).2 : Int)]) ∧ RowIs w' v (Px.recF p).1
def PutSays (L : List Px.Pr) (e : Ending) (w' : World) : Prop := ∃ v, e = .returned (.tuple #[v, .int .i64 ((Px.putF L).2.1 : Int), .int .i64 ((Px.putF L).2.2 : Int)]) ∧ RowIs w' v (Px.putF L).1
def GetSays (b : Px.B) (e : Ending) (w' : World) : Prop := ∃ v, e = .returned (.tuple #[v, .int .i64 ((Px.getF b 0 []).2.1 : Int), .int .i64 ((Px.getF b 0 []).2.2 : Int)]) ∧ PrsIs w' v (Px.getF b 0 []).1
def OverSays (L M : List Px.Pr) (e : Ending) (w' : World) : Prop := ∃ v, e = .returned (.tuple #[v, .int .i64 ((Px.overF L M).2 : Int)]) ∧ PrsIs w' v (Px.overF L M).1
end Go.Proofs.YtldkhbkgmiicbabGreatDoor

/- The library's own table of powers of ten: what the card's condition tells of it. -/
namespace Go.Proofs.YtldkhbkgmiicbabGreatDoor
open Go.RowKit Go.Deep

/-- the powers of ten stand in the library's own table -/
def KAt (w : World) : Prop := Lib.TabIs Tryz.prog w "internal/strconv.uint64pow10" .u64 Lib.pow10Tab
theorem gK : ∃ g, Tryz.prog.globalNamed "internal/strconv.uint64pow10" = some g ∧ (Tryz.prog.globals[g]?).map (·.type) = some 150 := ⟨2, by kernel_rfl, by kernel_rfl⟩
theorem KAt.keep {w w' : World} (h : KAt w) (k : Bw w w') : KAt w' := by
  obtain ⟨g, hg, -⟩ := gK
  exact Joins.tab_stays hg h k (Nat.le_refl _)
def laidK : List (String × DataW Unit) := [("math/bits.deBruijn32tab", Rows.laid_math_bits_deBruijn32tab), ("math/bits.deBruijn64tab", Rows.laid_math_bits_deBruijn64tab), ("internal/strconv.uint64pow10", Rows.laid_internal_strconv_uint64pow10)]
end Go.Proofs.YtldkhbkgmiicbabGreatDoor

/- The library contracts of what the program calls, laid over this program. -/
namespace Go.Proofs.YtldkhbkgmiicbabGreatDoor
open Go.Shelf
def sx171_ren : Go.Shelf.Ren := ⟨fun | 171 => 77 | 243 => 90 | 246 => 97 | 283 => 98 | 284 => 99 | 285 => 100 | 286 => 101 | 129 => 113 | 317 => 112 | 318 => 114 | 319 => 115 | 320 => 116 | 337 => 119 | 338 => 120 | n => n, fun | 3 => 3 | 9 => 9 | 2 => 2 | 4 => 4 | 171 => 137 | 0 => 0 | 53 => 131 | 37 => 24 | 5 => 5 | 173 => 140 | 212 => 150 | 51 => 128 | 20 => 20 | 213 => 151 | 46 => 135 | 232 => 156 | 233 => 157 | n => n, fun | 17 => 2 | 18 => 3 | 19 => 4 | n => n⟩
theorem sx171 : Go.Proofs.LaysM.n171 Tryz.prog sx171_ren := {
  mixed := by kernel_rfl
  f129 := Tryz.func113.trans (congrArg some (by kernel_rfl))
  f171 := Tryz.func77.trans (congrArg some (by kernel_rfl))
  f243 := Tryz.func90.trans (congrArg some (by kernel_rfl))
  f246 := Tryz.func97.trans (congrArg some (by kernel_rfl))
  f283 := Tryz.func98.trans (congrArg some (by kernel_rfl))
  f284 := Tryz.func99.trans (congrArg some (by kernel_rfl))
  f285 := Tryz.func100.trans (congrArg some (by kernel_rfl))
  f286 := Tryz.func101.trans (congrArg some (by kernel_rfl))
  f317 := Tryz.func112.trans (congrArg some (by kernel_rfl))
  f318 := Tryz.func114.trans (congrArg some (by kernel_rfl))
  f319 := Tryz.func115.trans (congrArg some (by kernel_rfl))
  f320 := Tryz.func116.trans (congrArg some (by kernel_rfl))
  f337 := Tryz.func119.trans (congrArg some (by kernel_rfl))
  f338 := Tryz.func120.trans (congrArg some (by kernel_rfl))
  t0 := Tryz.underlying0
  a0 := Tryz.isAgg0
  z0 := Tryz.sizeOf0
  v0 := Tryz.zeroValue0
  t2 := Tryz.underlying2
  a2 := Tryz.isAgg2
  z2 := Tryz.sizeOf2
  v2 := Tryz.zeroValue2
  t3 := Tryz.underlying3
  a3 := Tryz.isAgg3
  z3 := Tryz.sizeOf3
  v3 := Tryz.zeroValue3
  t4 := Tryz.underlying4
  a4 := Tryz.isAgg4
  z4 := Tryz.sizeOf4
  v4 := Tryz.zeroValue4
  t5 := Tryz.underlying5
  a5 := Tryz.isAgg5
  z5 := Tryz.sizeOf5
  v5 := Tryz.zeroValue5
  t9 := Tryz.underlying9
  a9 := Tryz.isAgg9
  z9 := Tryz.sizeOf9
  v9 := Tryz.zeroValue9
  t20 := Tryz.underlying20
  a20 := Tryz.isAgg20
  z20 := Tryz.sizeOf20
  v20 := Tryz.zeroValue20
  t37 := Tryz.underlying24
  a37 := Tryz.isAgg24
  z37 := Tryz.sizeOf24
  v37 := Tryz.zeroValue24
  t46 := Tryz.underlying135
  a46 := Tryz.isAgg135
  z46 := Tryz.sizeOf135
  v46 := Tryz.zeroValue135
  t51 := Tryz.underlying128
  a51 := Tryz.isAgg128
  z51 := Tryz.sizeOf128
  v51 := Tryz.zeroValue128
  t53 := Tryz.underlying131
  a53 := Tryz.isAgg131
  z53 := Tryz.sizeOf131
  v53 := Tryz.zeroValue131
  t171 := Tryz.underlying137
  a171 := Tryz.isAgg137
  z171 := Tryz.sizeOf137
  v171 := Tryz.zeroValue137
  t173 := Tryz.underlying140
  a173 := Tryz.isAgg140
  z173 := Tryz.sizeOf140
  v173 := Tryz.zeroValue140
  t212 := Tryz.underlying150
  a212 := Tryz.isAgg150
  z212 := Tryz.sizeOf150
  v212 := Tryz.zeroValue150
  t213 := Tryz.underlying151
  a213 := Tryz.isAgg151
  z213 := Tryz.sizeOf151
  t232 := Tryz.underlying156
  a232 := Tryz.isAgg156
  z232 := Tryz.sizeOf156
  v232 := Tryz.zeroValue156
  t233 := Tryz.underlying157
  a233 := Tryz.isAgg157
  z233 := Tryz.sizeOf157
  v233 := Tryz.zeroValue157
  g17 := by kernel_rfl
  g18 := by kernel_rfl
  g19 := by kernel_rfl
  i0 := by kernel_rfl
  i2 := by kernel_rfl
  i3 := by kernel_rfl
  i4 := by kernel_rfl
  i5 := by kernel_rfl
  i9 := by kernel_rfl
  i20 := by kernel_rfl
  i37 := by kernel_rfl
  i46 := by kernel_rfl
  i51 := by kernel_rfl
  i53 := by kernel_rfl
  i171 := by kernel_rfl
  i173 := by kernel_rfl
  i212 := by kernel_rfl
  i232 := by kernel_rfl
  i233 := by kernel_rfl
  m17 := by kernel_rfl
  m18 := by kernel_rfl
  m19 := by kernel_rfl }
def sx176_ren : Go.Shelf.Ren := ⟨fun | 176 => 61 | 249 => 78 | 288 => 91 | 283 => 98 | 284 => 99 | 285 => 100 | 286 => 101 | 129 => 113 | 317 => 112 | 318 => 114 | 319 => 115 | 320 => 116 | 337 => 119 | 338 => 120 | n => n, fun | 37 => 24 | 2 => 2 | 3 => 3 | 53 => 131 | 4 => 4 | 9 => 9 | 171 => 137 | 0 => 0 | 173 => 140 | 212 => 150 | 51 => 128 | 5 => 5 | 20 => 20 | 213 => 151 | 46 => 135 | 232 => 156 | 233 => 157 | n => n, fun | 17 => 2 | 18 => 3 | 19 => 4 | n => n⟩
theorem sx176 : Go.Proofs.LaysM.n176 Tryz.prog sx176_ren := {
  mixed := by kernel_rfl
  f129 := Tryz.func113.trans (congrArg some (by kernel_rfl))
  f176 := Tryz.func61.trans (congrArg some (by kernel_rfl))
  f249 := Tryz.func78.trans (congrArg some (by kernel_rfl))
  f283 := Tryz.func98.trans (congrArg some (by kernel_rfl))
  f284 := Tryz.func99.trans (congrArg some (by kernel_rfl))
  f285 := Tryz.func100.trans (congrArg some (by kernel_rfl))
  f286 := Tryz.func101.trans (congrArg some (by kernel_rfl))
  f288 := Tryz.func91.trans (congrArg some (by kernel_rfl))
  f317 := Tryz.func112.trans (congrArg some (by kernel_rfl))
  f318 := Tryz.func114.trans (congrArg some (by kernel_rfl))
  f319 := Tryz.func115.trans (congrArg some (by kernel_rfl))
  f320 := Tryz.func116.trans (congrArg some (by kernel_rfl))
  f337 := Tryz.func119.trans (congrArg some (by kernel_rfl))
  f338 := Tryz.func120.trans (congrArg some (by kernel_rfl))
  t0 := Tryz.underlying0
  a0 := Tryz.isAgg0
  z0 := Tryz.sizeOf0
  v0 := Tryz.zeroValue0
  t2 := Tryz.underlying2
  a2 := Tryz.isAgg2
  z2 := Tryz.sizeOf2
  v2 := Tryz.zeroValue2
  t3 := Tryz.underlying3
  a3 := Tryz.isAgg3
  z3 := Tryz.sizeOf3
  v3 := Tryz.zeroValue3
  t4 := Tryz.underlying4
  a4 := Tryz.isAgg4
  z4 := Tryz.sizeOf4
  v4 := Tryz.zeroValue4
  t5 := Tryz.underlying5
  a5 := Tryz.isAgg5
  z5 := Tryz.sizeOf5
  v5 := Tryz.zeroValue5
  t9 := Tryz.underlying9
  a9 := Tryz.isAgg9
  z9 := Tryz.sizeOf9
  v9 := Tryz.zeroValue9
  t20 := Tryz.underlying20
  a20 := Tryz.isAgg20
  z20 := Tryz.sizeOf20
  v20 := Tryz.zeroValue20
  t37 := Tryz.underlying24
  a37 := Tryz.isAgg24
  z37 := Tryz.sizeOf24
  v37 := Tryz.zeroValue24
  t46 := Tryz.underlying135
  a46 := Tryz.isAgg135
  z46 := Tryz.sizeOf135
  v46 := Tryz.zeroValue135
  t51 := Tryz.underlying128
  a51 := Tryz.isAgg128
  z51 := Tryz.sizeOf128
  v51 := Tryz.zeroValue128
  t53 := Tryz.underlying131
  a53 := Tryz.isAgg131
  z53 := Tryz.sizeOf131
  v53 := Tryz.zeroValue131
  t171 := Tryz.underlying137
  a171 := Tryz.isAgg137
  z171 := Tryz.sizeOf137
  v171 := Tryz.zeroValue137
  t173 := Tryz.underlying140
  a173 := Tryz.isAgg140
  z173 := Tryz.sizeOf140
  v173 := Tryz.zeroValue140
  t212 := Tryz.underlying150
  a212 := Tryz.isAgg150
  z212 := Tryz.sizeOf150
  v212 := Tryz.zeroValue150
  t213 := Tryz.underlying151
  a213 := Tryz.isAgg151
  z213 := Tryz.sizeOf151
  t232 := Tryz.underlying156
  a232 := Tryz.isAgg156
  z232 := Tryz.sizeOf156
  v232 := Tryz.zeroValue156
  t233 := Tryz.underlying157
  a233 := Tryz.isAgg157
  z233 := Tryz.sizeOf157
  v233 := Tryz.zeroValue157
  g17 := by kernel_rfl
  g18 := by kernel_rfl
  g19 := by kernel_rfl
  i0 := by kernel_rfl
  i2 := by kernel_rfl
  i3 := by kernel_rfl
  i4 := by kernel_rfl
  i5 := by kernel_rfl
  i9 := by kernel_rfl
  i20 := by kernel_rfl
  i37 := by kernel_rfl
  i46 := by kernel_rfl
  i51 := by kernel_rfl
  i53 := by kernel_rfl
  i171 := by kernel_rfl
  i173 := by kernel_rfl
  i212 := by kernel_rfl
  i232 := by kernel_rfl
  i233 := by kernel_rfl
  m17 := by kernel_rfl
  m18 := by kernel_rfl
  m19 := by kernel_rfl }
def sx150_ren : Go.Shelf.Ren := ⟨fun | 150 => 89 | 153 => 96 | 152 => 108 | 226 => 109 | 227 => 110 | 228 => 111 | 137 => 66 | 119 => 118 | 224 => 106 | 225 => 105 | 217 => 84 | 266 => 94 | n => n, fun | 9 => 9 | 4 => 4 | 3 => 3 | 5 => 5 | 21 => 21 | 117 => 147 | 116 => 146 | 0 => 0 | 46 => 135 | 124 => 154 | n => n, fun | n => n⟩
theorem sx150 : Go.Proofs.Lays.n150 Tryz.prog sx150_ren := {
  mixed := by kernel_rfl
  f119 := Tryz.func118.trans (congrArg some (by kernel_rfl))
  f137 := Tryz.func66.trans (congrArg some (by kernel_rfl))
  f150 := Tryz.func89.trans (congrArg some (by kernel_rfl))
  f152 := Tryz.func108.trans (congrArg some (by kernel_rfl))
  f153 := Tryz.func96.trans (congrArg some (by kernel_rfl))
  f217 := Tryz.func84.trans (congrArg some (by kernel_rfl))
  f224 := Tryz.func106.trans (congrArg some (by kernel_rfl))
  f225 := Tryz.func105.trans (congrArg some (by kernel_rfl))
  f226 := Tryz.func109.trans (congrArg some (by kernel_rfl))
  f227 := Tryz.func110.trans (congrArg some (by kernel_rfl))
  f228 := Tryz.func111.trans (congrArg some (by kernel_rfl))
  f266 := Tryz.func94.trans (congrArg some (by kernel_rfl))
  t0 := Tryz.underlying0
  a0 := Tryz.isAgg0
  z0 := Tryz.sizeOf0
  v0 := Tryz.zeroValue0
  t3 := Tryz.underlying3
  a3 := Tryz.isAgg3
  z3 := Tryz.sizeOf3
  v3 := Tryz.zeroValue3
  t4 := Tryz.underlying4
  a4 := Tryz.isAgg4
  z4 := Tryz.sizeOf4
  v4 := Tryz.zeroValue4
  t5 := Tryz.underlying5
  a5 := Tryz.isAgg5
  z5 := Tryz.sizeOf5
  v5 := Tryz.zeroValue5
  t9 := Tryz.underlying9
  a9 := Tryz.isAgg9
  z9 := Tryz.sizeOf9
  v9 := Tryz.zeroValue9
  t21 := Tryz.underlying21
  a21 := Tryz.isAgg21
  z21 := Tryz.sizeOf21
  v21 := Tryz.zeroValue21
  t46 := Tryz.underlying135
  a46 := Tryz.isAgg135
  z46 := Tryz.sizeOf135
  v46 := Tryz.zeroValue135
  t116 := Tryz.underlying146
  a116 := Tryz.isAgg146
  z116 := Tryz.sizeOf146
  t117 := Tryz.underlying147
  a117 := Tryz.isAgg147
  z117 := Tryz.sizeOf147
  v117 := Tryz.zeroValue147
  t124 := Tryz.underlying154
  a124 := Tryz.isAgg154
  z124 := Tryz.sizeOf154
  v124 := Tryz.zeroValue154 }
end Go.Proofs.YtldkhbkgmiicbabGreatDoor
