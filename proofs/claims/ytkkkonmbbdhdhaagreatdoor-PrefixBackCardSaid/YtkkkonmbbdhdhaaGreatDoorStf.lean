/- Contracts of bits.Stuff, unstuffed, dataLen, Plain, New. -/
import Derived.Test.YtkkkonmbbdhdhaaGreatDoorReplA
namespace Go.Proofs.YtkkkonmbbdhdhaaGreatDoor
open Go.RowKit Go.Lib
set_option linter.unusedVariables false
set_option maxRecDepth 100000

theorem litB2 (w : World) (T U : TypeId) (cs ds : Array Value) (l m : List UInt8) (h1 : cs = (l.map bv).toArray) (h2 : ds = (m.map bv).toArray) :
    Rd ((w.alloc (.cells cs T)).alloc (.cells ds U)) (some ⟨w.heap.size, 0, none⟩) l ∧ Rd ((w.alloc (.cells cs T)).alloc (.cells ds U)) (some ⟨w.heap.size + 1, 0, none⟩) m := by
  refine ⟨(Rd.lits w T cs l h1).alloc _, ?_⟩
  have := Rd.lits (w.alloc (.cells cs T)) U ds m h2
  rwa [World.size_alloc] at this
theorem two_below {w w1 : World} {o p : Obj} (h : Below ((w.alloc o).alloc p).heap.size ((w.alloc o).alloc p) w1) : Below w.heap.size w w1 :=
  (((Below.refl w.heap.size w).alloc (Nat.le_refl _) o).alloc (by simp) p).trans (h.mono (by simp; omega))

theorem stuff_any (l : List UInt8) (A : Option Addr) (c : Nat) (w : World) (hw : Env w) (hr : Rd w A l) (hcap : l.length ≤ c) (hA : A = none → c = 0) (hl : l.length ≤ 100000000) :
    Calls Tryz.prog 32 #[.slice A l.length c] w fun e w' => ∃ v, e = .returned v ∧ Ob w' w.heap.size v (stf l) ∧ Below w.heap.size w w' := by
  have L := Lib.hid (litB2 w 5 5 #[.int .u8 255] #[.int .u8 255, .int .u8 0] [255] [255, 0] rfl rfl)
  go_enter Tryz.func32, Tryz.ntmps32
  go_wp2_with ((with_reducible refine (replStuff l A c _ _ _ _ _ _ _ ((hw.alloc _).alloc _) ((hr.alloc _).alloc _) hcap hA L.out.1 L.out.2 hl).mono ?_); rintro e w' ⟨v, rfl, hv, hb⟩)
  go_ret
  exact ⟨v, rfl, hv.mono (by simp; omega), two_below hb⟩
theorem unst_any (l : List UInt8) (A : Option Addr) (c : Nat) (w : World) (hw : Env w) (hr : Rd w A l) (hcap : l.length ≤ c) (hA : A = none → c = 0) (hl : l.length ≤ 100000000) :
    Calls Tryz.prog 24 #[.slice A l.length c] w fun e w' => ∃ v, e = .returned v ∧ Ob w' w.heap.size v (ustF false l) ∧ Below w.heap.size w w' := by
  have L := Lib.hid (litB2 w 5 5 #[.int .u8 255, .int .u8 0] #[.int .u8 255] [255, 0] [255] rfl rfl)
  go_enter Tryz.func24, Tryz.ntmps24
  go_wp2_with ((with_reducible refine (replPlain l A c _ _ _ _ _ _ _ ((hw.alloc _).alloc _) ((hr.alloc _).alloc _) hcap hA L.out.1 L.out.2 hl).mono ?_); rintro e w' ⟨v, rfl, hv, hb⟩)
  go_ret
  exact ⟨v, rfl, hv.mono (by simp; omega), two_below hb⟩

theorem drop_cons (l : List UInt8) (k : Nat) (h : k < l.length) : l.drop k = l[k] :: l.drop (k + 1) := List.drop_eq_getElem_cons h
theorem bt_255 {l : List UInt8} {k : Nat} (h : k < l.length) : bt l k = 255 ↔ l[k] = 255 := by
  unfold bt
  rw [List.getD_eq_getElem?_getD, List.getElem?_eq_getElem h, Option.getD_some]
  constructor
  · intro e; apply UInt8.toNat_inj.1; show l[k].toNat = 255; omega
  · intro e; rw [e]; rfl
theorem bt_0 {l : List UInt8} {k : Nat} (h : k < l.length) : bt l k = 0 ↔ l[k] = 0 := by
  unfold bt
  rw [List.getD_eq_getElem?_getD, List.getElem?_eq_getElem h, Option.getD_some]
  constructor
  · intro e; apply UInt8.toNat_inj.1; show l[k].toNat = 0; omega
  · intro e; rw [e]; rfl
theorem hasP (l : List UInt8) (A B : Option Addr) (n c d : Nat) (hn : n = l.length) (b : Bool) (w : World) (hr : Rd w A l) (hcap : n ≤ c) (hr2 : Rd w B [0]) (hb : Hid (decide (l.head? = some 0) = b)) :
    Calls Tryz.prog 41 #[.slice A n c, .slice B 1 d] w fun e w' => e = .returned (.bool b) ∧ w = w' := by
  subst hn
  refine (hasPrefix_any l A B c d 0 w hr hcap hr2).mono ?_
  rintro e w' ⟨rfl, hw⟩
  exact ⟨by rw [hb.out], hw.symm⟩

set_option maxHeartbeats 800000 in
theorem dataLen_any (l : List UInt8) (A : Option Addr) (c : Nat) (w : World) (hr : Rd w A l) (hcap : l.length ≤ c) (hl : l.length ≤ 100000000) :
    Calls Tryz.prog 25 #[.slice A l.length c] w fun e w' => e = .returned (.int .i64 (dat l)) ∧ Below w.heap.size w w' := by
  go_enter Tryz.func25, Tryz.ntmps25
  go_wp2
  go_loopw [7] (fun i wr => ∃ k : Nat, k ≤ l.length ∧ i = .int .i64 k ∧ Hid (dat l = k + dat (l.drop k)) ∧ Hid (Below w.heap.size w wr)) (fun i _ => l.length - (RowKit.intOf i).toNat)
  case atStart => exact ⟨0, Nat.zero_le _, rfl, (show Hid _ from by show _ = _; simp), Below.refl _ _⟩
  case round =>
    obtain ⟨k, hk, rfl, HD, HB⟩ := hrel
    by_cases hlt : k < l.length
    · obtain ⟨b, o, rfl, hc⟩ := hr.at (by omega)
      have e1 := cell_later HB.out (hc k hlt)
      have rA := Lib.hid (hr.below HB.out)
      have hdc := Lib.hid (drop_cons l k hlt)
      clear hc
      by_cases h5 : bt l k = 255
      · have hq : (bt l k == 255) = true := by rw [h5]; rfl
        have H5 := Lib.hid ((bt_255 hlt).1 h5)
        clear h5
        have hs1 := fun W => run_win_l (some ⟨b, o, none⟩) l.length c (k + 1) ((k : Int) + 1) (by omega) hlt W
        have Lw := Lib.hid (Rd.lits wr 5 #[.int .u8 0] [0] rfl)
        by_cases hh : (l.drop (k + 1)).head? = some 0
        · have HH := Lib.hid (decide_eq_true hh)
          have HY := Lib.hid hh
          clear hh
          go_wp2_with ((with_reducible refine (hasP (l.drop (k + 1)) _ _ _ _ _ (by rw [List.length_drop]) true _ (by have := (rA.out.alloc (.cells #[.int .u8 0] 5)).win c (k + 1) (l.drop (k + 1)).length hcap; rwa [List.take_length] at this) (by omega) Lw.out HH).mono ?_); rintro e w' ⟨rfl, rfl⟩)
          go_roundw
          case rel =>
            refine ⟨k + 1, by omega, by go_num, ?_, (HB.out.alloc HB.out.size _)⟩
            show _ = _
            rw [HD.out, hdc.out, dat_yes (by rw [HY.out]; simp)]
            omega
          case measure => simp [RowKit.intOf]; omega
        · have HH := Lib.hid (decide_eq_false hh)
          have HY := Lib.hid hh
          clear hh
          go_wp2_with ((with_reducible refine (hasP (l.drop (k + 1)) _ _ _ _ _ (by rw [List.length_drop]) false _ (by have := (rA.out.alloc (.cells #[.int .u8 0] 5)).win c (k + 1) (l.drop (k + 1)).length hcap; rwa [List.take_length] at this) (by omega) Lw.out HH).mono ?_); rintro e w' ⟨rfl, rfl⟩)
          go_ret
          refine ⟨ret_int ?_, HB.out.alloc HB.out.size _⟩
          rw [HD.out, hdc.out, dat_no ⟨H5.out, HY.out⟩]
          simp
      · have hq : (bt l k == 255) = false := by rw [beq_eq_false_iff_ne]; exact h5
        have H5 := Lib.hid ((not_congr (bt_255 hlt)).1 h5)
        clear h5
        go_wp2
        go_roundw
        case rel =>
          refine ⟨k + 1, by omega, by go_num, ?_, HB⟩
          show _ = _
          rw [HD.out, hdc.out, dat_yes (by intro h; exact H5.out h.1)]
          omega
        case measure => simp [RowKit.intOf]; omega
    · have hk2 : Hid (dat l = l.length) := by
        show _ = _
        rw [HD.out, List.drop_eq_nil_of_le (by omega)]
        simp [dat]
        omega
      go_wp2
      go_ret
      exact ⟨ret_int (by rw [hk2.out]), HB.out⟩
end Go.Proofs.YtkkkonmbbdhdhaaGreatDoor
