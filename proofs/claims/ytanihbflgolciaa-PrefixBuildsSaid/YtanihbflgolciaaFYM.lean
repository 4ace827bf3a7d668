/- FYM: the texts FYa, FYb, FYc, FYd, FSsg in one. -/
import Derived.Test.YtanihbflgolciaaSymM
import Derived.Deep.DeepCutAuto
/- slices' symMerge at ints, in pieces: the tail (rotate, merge left, merge right). -/
namespace Go.Proofs.Ytanihbflgolciaa
open Go.RowKit Go.Lib Go.Sort
set_option linter.unusedVariables false
set_option maxRecDepth 100000
def fC : Code → Code
  | .seq a _ => a
  | c => c
def sC : Code → Code
  | .seq _ b => b
  | c => c
/-- What is left of symMerge behind n statements. -/
noncomputable def bC : Nat → Code
  | 0 => (Try.f47.body).getD .skip
  | n + 1 => sC (bC n)
set_option maxHeartbeats 2000000 in
theorem t39 {u5 u6 u7 u8 u9 u10 u11 u12 u13 u14 u15 u16 u17 u19 u21 u22 u23 u25 u26 u27 u28 u29 u30 u31 u32 u33 u34 u35 u36 u37 u38 u39 u40 u41 u42 u43 u44 u45 u46 u47 u48 u49 u50 u51 u52 u53 u54 u55 u56 u57 u58 u59 u60 u61 u62 u63 u64 u65 u66 u67 u68 u69 u70 u71 u72 u73 u74 u75 u76 u77 u78 u79 u80 u81 u82 u83 u84 u85 u86 u87 u88 u89 u90 u91 u92 u93 u94 u95 u96 u97 u98 u99 u100 u101 u102 u103 u104 u105 u106 u107 u108 u109 u110 u111 u112 u113 u114 u115 u116 u117 u118 u119 u120 u121 u122 u123 u124 u125 u126 u127 u128 u129 u130 u131 u132 u133 u134 u135 u136 u137 u138 u139 u140 u141 u142 u143 u144 u145 u146 u147 u148 u149 u150 u151 u152 u153 u154 u155 u156 u157 u158 u159 u160 u161 u162 u163 u164 u165 u166 u167 u168 u169 u170 u171 u172 u173 u174 u175 u176 u177 u178 u179 u180 u181 u182 u183 u184 u185 u186 u187 u188 u189 u190 u191 u192 u193 u194 u195 u196 u197 u198 u199 u200 u201 u202 u203 u204 u205 u206 u207 u208 u209 u210 u211 u212 u213 u214 u215 u216 u217 u218 u219 : Value} {X : World → Prop} (S f : Value) (a m b mid s e : Nat) (w : World)
    (hc : s < m → m < e → Calls Try.prog 56 #[S, .int .i64 s, .int .i64 m, .int .i64 e, f] w fun x w' => x = .returned (.tuple #[]) ∧ X w') (hn : ¬ (s < m ∧ m < e) → X w) :
    (fC (bC 9)).wp Try.prog (fun x a1 w1 => x = .normal ∧ X w1 ∧ ∃ v178 v179 v180 v181 v182 v183 v184 v185 v186 v187 v188 v189 v190 v191, a1 = ⟨#[S, .int .i64 a, .int .i64 m, .int .i64 b, f, u5, u6, u7, u8, u9, u10, u11, u12, u13, u14, u15, u16, u17, .int .i64 mid, u19, .int .i64 s, u21, u22, u23, .int .i64 e, u25, u26, u27, u28, u29, u30, u31, u32, u33, u34, u35, u36, u37, u38, u39, u40, u41, u42, u43, u44, u45, u46, u47, u48, u49, u50, u51, u52, u53, u54, u55, u56, u57, u58, u59, u60, u61, u62, u63, u64, u65, u66, u67, u68, u69, u70, u71, u72, u73, u74, u75, u76, u77, u78, u79, u80, u81, u82, u83, u84, u85, u86, u87, u88, u89, u90, u91, u92, u93, u94, u95, u96, u97, u98, u99, u100, u101, u102, u103, u104, u105, u106, u107, u108, u109, u110, u111, u112, u113, u114, u115, u116, u117, u118, u119, u120, u121, u122, u123, u124, u125, u126, u127, u128, u129, u130, u131, u132, u133, u134, u135, u136, u137, u138, u139, u140, u141, u142, u143, u144, u145, u146, u147, u148, u149, u150, u151, u152, u153, u154, u155, u156, u157, u158, u159, u160, u161, u162, u163, u164, u165, u166, u167, u168, u169, u170, u171, u172, u173, u174, u175, u176, u177, v178, v179, v180, v181, v182, v183, v184, v185, v186, v187, v188, v189, v190, v191, u192, u193, u194, u195, u196, u197, u198, u199, u200, u201, u202, u203, u204, u205, u206, u207, u208, u209, u210, u211, u212, u213, u214, u215, u216, u217, u218, u219], []⟩) ⟨#[S, .int .i64 a, .int .i64 m, .int .i64 b, f, u5, u6, u7, u8, u9, u10, u11, u12, u13, u14, u15, u16, u17, .int .i64 mid, u19, .int .i64 s, u21, u22, u23, .int .i64 e, u25, u26, u27, u28, u29, u30, u31, u32, u33, u34, u35, u36, u37, u38, u39, u40, u41, u42, u43, u44, u45, u46, u47, u48, u49, u50, u51, u52, u53, u54, u55, u56, u57, u58, u59, u60, u61, u62, u63, u64, u65, u66, u67, u68, u69, u70, u71, u72, u73, u74, u75, u76, u77, u78, u79, u80, u81, u82, u83, u84, u85, u86, u87, u88, u89, u90, u91, u92, u93, u94, u95, u96, u97, u98, u99, u100, u101, u102, u103, u104, u105, u106, u107, u108, u109, u110, u111, u112, u113, u114, u115, u116, u117, u118, u119, u120, u121, u122, u123, u124, u125, u126, u127, u128, u129, u130, u131, u132, u133, u134, u135, u136, u137, u138, u139, u140, u141, u142, u143, u144, u145, u146, u147, u148, u149, u150, u151, u152, u153, u154, u155, u156, u157, u158, u159, u160, u161, u162, u163, u164, u165, u166, u167, u168, u169, u170, u171, u172, u173, u174, u175, u176, u177, u178, u179, u180, u181, u182, u183, u184, u185, u186, u187, u188, u189, u190, u191, u192, u193, u194, u195, u196, u197, u198, u199, u200, u201, u202, u203, u204, u205, u206, u207, u208, u209, u210, u211, u212, u213, u214, u215, u216, u217, u218, u219], []⟩ w := by
  conv => arg 2; whnf
  by_cases c1 : s < m
  · have z1 : (s : Int) < (m : Int) := by omega
    by_cases c2 : m < e
    · have z2 : (m : Int) < (e : Int) := by omega
      have HC := Lib.hid (hc c1 c2)
      clear hc hn
      go_wp2_with (go_at_call 56; (with_reducible refine HC.out.mono ?_); rintro ee w2 ⟨rfl, hx⟩; have HX := Lib.hid hx; clear hx)
      exact HX.out
    · have z2 : ¬ (m : Int) < (e : Int) := by omega
      have HX := Lib.hid (hn (by omega))
      clear hc hn
      go_wp2
      exact HX.out
  · have z1 : ¬ (s : Int) < (m : Int) := by omega
    have HX := Lib.hid (hn (by omega))
    clear hc hn
    go_wp2
    exact HX.out
set_option maxHeartbeats 2000000 in
theorem t41 {u5 u6 u7 u8 u9 u10 u11 u12 u13 u14 u15 u16 u17 u19 u21 u22 u23 u25 u26 u27 u28 u29 u30 u31 u32 u33 u34 u35 u36 u37 u38 u39 u40 u41 u42 u43 u44 u45 u46 u47 u48 u49 u50 u51 u52 u53 u54 u55 u56 u57 u58 u59 u60 u61 u62 u63 u64 u65 u66 u67 u68 u69 u70 u71 u72 u73 u74 u75 u76 u77 u78 u79 u80 u81 u82 u83 u84 u85 u86 u87 u88 u89 u90 u91 u92 u93 u94 u95 u96 u97 u98 u99 u100 u101 u102 u103 u104 u105 u106 u107 u108 u109 u110 u111 u112 u113 u114 u115 u116 u117 u118 u119 u120 u121 u122 u123 u124 u125 u126 u127 u128 u129 u130 u131 u132 u133 u134 u135 u136 u137 u138 u139 u140 u141 u142 u143 u144 u145 u146 u147 u148 u149 u150 u151 u152 u153 u154 u155 u156 u157 u158 u159 u160 u161 u162 u163 u164 u165 u166 u167 u168 u169 u170 u171 u172 u173 u174 u175 u176 u177 u178 u179 u180 u181 u182 u183 u184 u185 u186 u187 u188 u189 u190 u191 u192 u193 u194 u195 u196 u197 u198 u199 u200 u201 u202 u203 u204 u205 u206 u207 u208 u209 u210 u211 u212 u213 u214 u215 u216 u217 u218 u219 : Value} {X : World → Prop} (S f : Value) (a m b mid s e : Nat) (w : World)
    (hc : a < s → s < mid → Calls Try.prog 47 #[S, .int .i64 a, .int .i64 s, .int .i64 mid, f] w fun x w' => x = .returned (.tuple #[]) ∧ X w') (hn : ¬ (a < s ∧ s < mid) → X w) :
    (fC (bC 10)).wp Try.prog (fun x a1 w1 => x = .normal ∧ X w1 ∧ ∃ v192 v193 v194 v195 v196 v197 v198 v199 v200 v201 v202 v203 v204 v205, a1 = ⟨#[S, .int .i64 a, .int .i64 m, .int .i64 b, f, u5, u6, u7, u8, u9, u10, u11, u12, u13, u14, u15, u16, u17, .int .i64 mid, u19, .int .i64 s, u21, u22, u23, .int .i64 e, u25, u26, u27, u28, u29, u30, u31, u32, u33, u34, u35, u36, u37, u38, u39, u40, u41, u42, u43, u44, u45, u46, u47, u48, u49, u50, u51, u52, u53, u54, u55, u56, u57, u58, u59, u60, u61, u62, u63, u64, u65, u66, u67, u68, u69, u70, u71, u72, u73, u74, u75, u76, u77, u78, u79, u80, u81, u82, u83, u84, u85, u86, u87, u88, u89, u90, u91, u92, u93, u94, u95, u96, u97, u98, u99, u100, u101, u102, u103, u104, u105, u106, u107, u108, u109, u110, u111, u112, u113, u114, u115, u116, u117, u118, u119, u120, u121, u122, u123, u124, u125, u126, u127, u128, u129, u130, u131, u132, u133, u134, u135, u136, u137, u138, u139, u140, u141, u142, u143, u144, u145, u146, u147, u148, u149, u150, u151, u152, u153, u154, u155, u156, u157, u158, u159, u160, u161, u162, u163, u164, u165, u166, u167, u168, u169, u170, u171, u172, u173, u174, u175, u176, u177, u178, u179, u180, u181, u182, u183, u184, u185, u186, u187, u188, u189, u190, u191, v192, v193, v194, v195, v196, v197, v198, v199, v200, v201, v202, v203, v204, v205, u206, u207, u208, u209, u210, u211, u212, u213, u214, u215, u216, u217, u218, u219], []⟩) ⟨#[S, .int .i64 a, .int .i64 m, .int .i64 b, f, u5, u6, u7, u8, u9, u10, u11, u12, u13, u14, u15, u16, u17, .int .i64 mid, u19, .int .i64 s, u21, u22, u23, .int .i64 e, u25, u26, u27, u28, u29, u30, u31, u32, u33, u34, u35, u36, u37, u38, u39, u40, u41, u42, u43, u44, u45, u46, u47, u48, u49, u50, u51, u52, u53, u54, u55, u56, u57, u58, u59, u60, u61, u62, u63, u64, u65, u66, u67, u68, u69, u70, u71, u72, u73, u74, u75, u76, u77, u78, u79, u80, u81, u82, u83, u84, u85, u86, u87, u88, u89, u90, u91, u92, u93, u94, u95, u96, u97, u98, u99, u100, u101, u102, u103, u104, u105, u106, u107, u108, u109, u110, u111, u112, u113, u114, u115, u116, u117, u118, u119, u120, u121, u122, u123, u124, u125, u126, u127, u128, u129, u130, u131, u132, u133, u134, u135, u136, u137, u138, u139, u140, u141, u142, u143, u144, u145, u146, u147, u148, u149, u150, u151, u152, u153, u154, u155, u156, u157, u158, u159, u160, u161, u162, u163, u164, u165, u166, u167, u168, u169, u170, u171, u172, u173, u174, u175, u176, u177, u178, u179, u180, u181, u182, u183, u184, u185, u186, u187, u188, u189, u190, u191, u192, u193, u194, u195, u196, u197, u198, u199, u200, u201, u202, u203, u204, u205, u206, u207, u208, u209, u210, u211, u212, u213, u214, u215, u216, u217, u218, u219], []⟩ w := by
  conv => arg 2; whnf
  by_cases c1 : a < s
  · have z1 : (a : Int) < (s : Int) := by omega
    by_cases c2 : s < mid
    · have z2 : (s : Int) < (mid : Int) := by omega
      have HC := Lib.hid (hc c1 c2)
      clear hc hn
      go_wp2_with (go_at_call 47; (with_reducible refine HC.out.mono ?_); rintro ee w2 ⟨rfl, hx⟩; have HX := Lib.hid hx; clear hx)
      exact HX.out
    · have z2 : ¬ (s : Int) < (mid : Int) := by omega
      have HX := Lib.hid (hn (by omega))
      clear hc hn
      go_wp2
      exact HX.out
  · have z1 : ¬ (a : Int) < (s : Int) := by omega
    have HX := Lib.hid (hn (by omega))
    clear hc hn
    go_wp2
    exact HX.out
set_option maxHeartbeats 2000000 in
theorem t43 {u5 u6 u7 u8 u9 u10 u11 u12 u13 u14 u15 u16 u17 u19 u21 u22 u23 u25 u26 u27 u28 u29 u30 u31 u32 u33 u34 u35 u36 u37 u38 u39 u40 u41 u42 u43 u44 u45 u46 u47 u48 u49 u50 u51 u52 u53 u54 u55 u56 u57 u58 u59 u60 u61 u62 u63 u64 u65 u66 u67 u68 u69 u70 u71 u72 u73 u74 u75 u76 u77 u78 u79 u80 u81 u82 u83 u84 u85 u86 u87 u88 u89 u90 u91 u92 u93 u94 u95 u96 u97 u98 u99 u100 u101 u102 u103 u104 u105 u106 u107 u108 u109 u110 u111 u112 u113 u114 u115 u116 u117 u118 u119 u120 u121 u122 u123 u124 u125 u126 u127 u128 u129 u130 u131 u132 u133 u134 u135 u136 u137 u138 u139 u140 u141 u142 u143 u144 u145 u146 u147 u148 u149 u150 u151 u152 u153 u154 u155 u156 u157 u158 u159 u160 u161 u162 u163 u164 u165 u166 u167 u168 u169 u170 u171 u172 u173 u174 u175 u176 u177 u178 u179 u180 u181 u182 u183 u184 u185 u186 u187 u188 u189 u190 u191 u192 u193 u194 u195 u196 u197 u198 u199 u200 u201 u202 u203 u204 u205 u206 u207 u208 u209 u210 u211 u212 u213 u214 u215 u216 u217 u218 u219 : Value} {X : World → Prop} (S f : Value) (a m b mid s e : Nat) (w : World)
    (hc : mid < e → e < b → Calls Try.prog 47 #[S, .int .i64 mid, .int .i64 e, .int .i64 b, f] w fun x w' => x = .returned (.tuple #[]) ∧ X w') (hn : ¬ (mid < e ∧ e < b) → X w) :
    (bC 11).wp Try.prog (fun x a1 w1 => x = .normal ∧ X w1 ∧ ∃ v206 v207 v208 v209 v210 v211 v212 v213 v214 v215 v216 v217 v218 v219, a1 = ⟨#[S, .int .i64 a, .int .i64 m, .int .i64 b, f, u5, u6, u7, u8, u9, u10, u11, u12, u13, u14, u15, u16, u17, .int .i64 mid, u19, .int .i64 s, u21, u22, u23, .int .i64 e, u25, u26, u27, u28, u29, u30, u31, u32, u33, u34, u35, u36, u37, u38, u39, u40, u41, u42, u43, u44, u45, u46, u47, u48, u49, u50, u51, u52, u53, u54, u55, u56, u57, u58, u59, u60, u61, u62, u63, u64, u65, u66, u67, u68, u69, u70, u71, u72, u73, u74, u75, u76, u77, u78, u79, u80, u81, u82, u83, u84, u85, u86, u87, u88, u89, u90, u91, u92, u93, u94, u95, u96, u97, u98, u99, u100, u101, u102, u103, u104, u105, u106, u107, u108, u109, u110, u111, u112, u113, u114, u115, u116, u117, u118, u119, u120, u121, u122, u123, u124, u125, u126, u127, u128, u129, u130, u131, u132, u133, u134, u135, u136, u137, u138, u139, u140, u141, u142, u143, u144, u145, u146, u147, u148, u149, u150, u151, u152, u153, u154, u155, u156, u157, u158, u159, u160, u161, u162, u163, u164, u165, u166, u167, u168, u169, u170, u171, u172, u173, u174, u175, u176, u177, u178, u179, u180, u181, u182, u183, u184, u185, u186, u187, u188, u189, u190, u191, u192, u193, u194, u195, u196, u197, u198, u199, u200, u201, u202, u203, u204, u205, v206, v207, v208, v209, v210, v211, v212, v213, v214, v215, v216, v217, v218, v219], []⟩) ⟨#[S, .int .i64 a, .int .i64 m, .int .i64 b, f, u5, u6, u7, u8, u9, u10, u11, u12, u13, u14, u15, u16, u17, .int .i64 mid, u19, .int .i64 s, u21, u22, u23, .int .i64 e, u25, u26, u27, u28, u29, u30, u31, u32, u33, u34, u35, u36, u37, u38, u39, u40, u41, u42, u43, u44, u45, u46, u47, u48, u49, u50, u51, u52, u53, u54, u55, u56, u57, u58, u59, u60, u61, u62, u63, u64, u65, u66, u67, u68, u69, u70, u71, u72, u73, u74, u75, u76, u77, u78, u79, u80, u81, u82, u83, u84, u85, u86, u87, u88, u89, u90, u91, u92, u93, u94, u95, u96, u97, u98, u99, u100, u101, u102, u103, u104, u105, u106, u107, u108, u109, u110, u111, u112, u113, u114, u115, u116, u117, u118, u119, u120, u121, u122, u123, u124, u125, u126, u127, u128, u129, u130, u131, u132, u133, u134, u135, u136, u137, u138, u139, u140, u141, u142, u143, u144, u145, u146, u147, u148, u149, u150, u151, u152, u153, u154, u155, u156, u157, u158, u159, u160, u161, u162, u163, u164, u165, u166, u167, u168, u169, u170, u171, u172, u173, u174, u175, u176, u177, u178, u179, u180, u181, u182, u183, u184, u185, u186, u187, u188, u189, u190, u191, u192, u193, u194, u195, u196, u197, u198, u199, u200, u201, u202, u203, u204, u205, u206, u207, u208, u209, u210, u211, u212, u213, u214, u215, u216, u217, u218, u219], []⟩ w := by
  conv => arg 2; whnf
  by_cases c1 : mid < e
  · have z1 : (mid : Int) < (e : Int) := by omega
    by_cases c2 : e < b
    · have z2 : (e : Int) < (b : Int) := by omega
      have HC := Lib.hid (hc c1 c2)
      clear hc hn
      go_wp2_with (go_at_call 47; (with_reducible refine HC.out.mono ?_); rintro ee w2 ⟨rfl, hx⟩; have HX := Lib.hid hx; clear hx)
      exact HX.out
    · have z2 : ¬ (e : Int) < (b : Int) := by omega
      have HX := Lib.hid (hn (by omega))
      clear hc hn
      go_wp2
      exact HX.out
  · have z1 : ¬ (mid : Int) < (e : Int) := by omega
    have HX := Lib.hid (hn (by omega))
    clear hc hn
    go_wp2
    exact HX.out
theorem t38 {u5 u6 u7 u8 u9 u10 u11 u12 u13 u14 u15 u16 u17 u21 u22 u23 u25 u26 u27 u28 u29 u30 u31 u32 u33 u34 u35 u36 u37 u38 u39 u40 u41 u42 u43 u44 u45 u46 u47 u48 u49 u50 u51 u52 u53 u54 u55 u56 u57 u58 u59 u60 u61 u62 u63 u64 u65 u66 u67 u68 u69 u70 u71 u72 u73 u74 u75 u76 u77 u78 u79 u80 u81 u82 u83 u84 u85 u86 u87 u88 u89 u90 u91 u92 u93 u94 u95 u96 u97 u98 u99 u100 u101 u102 u103 u104 u105 u106 u107 u108 u109 u110 u111 u112 u113 u114 u115 u116 u117 u118 u119 u120 u121 u122 u123 u124 u125 u126 u127 u128 u129 u130 u131 u132 u133 u134 u135 u136 u137 u138 u139 u140 u141 u142 u143 u144 u145 u146 u147 u148 u149 u150 u151 u152 u153 u154 u155 u156 u157 u158 u159 u160 u161 u162 u163 u164 u165 u166 u167 u168 u169 u170 u171 u172 u173 u174 u175 u176 u177 u178 u179 u180 u181 u182 u183 u184 u185 u186 u187 u188 u189 u190 u191 u192 u193 u194 u195 u196 u197 u198 u199 u200 u201 u202 u203 u204 u205 u206 u207 u208 u209 u210 u211 u212 u213 u214 u215 u216 u217 u218 u219 u24 : Value} (S f : Value) (a m b mid s e : Nat) (n : Int) (w : World) (h : n - (s : Int) = (e : Int)) (h1 : 0 ≤ n) (h2 : n ≤ 10000) :
    (fC (bC 8)).wp Try.prog (fun x a1 w1 => x = .normal ∧ w1 = w ∧ ∃ v175 v176 v177, a1 = ⟨#[S, .int .i64 a, .int .i64 m, .int .i64 b, f, u5, u6, u7, u8, u9, u10, u11, u12, u13, u14, u15, u16, u17, .int .i64 mid, .int .i64 n, .int .i64 s, u21, u22, u23, .int .i64 e, u25, u26, u27, u28, u29, u30, u31, u32, u33, u34, u35, u36, u37, u38, u39, u40, u41, u42, u43, u44, u45, u46, u47, u48, u49, u50, u51, u52, u53, u54, u55, u56, u57, u58, u59, u60, u61, u62, u63, u64, u65, u66, u67, u68, u69, u70, u71, u72, u73, u74, u75, u76, u77, u78, u79, u80, u81, u82, u83, u84, u85, u86, u87, u88, u89, u90, u91, u92, u93, u94, u95, u96, u97, u98, u99, u100, u101, u102, u103, u104, u105, u106, u107, u108, u109, u110, u111, u112, u113, u114, u115, u116, u117, u118, u119, u120, u121, u122, u123, u124, u125, u126, u127, u128, u129, u130, u131, u132, u133, u134, u135, u136, u137, u138, u139, u140, u141, u142, u143, u144, u145, u146, u147, u148, u149, u150, u151, u152, u153, u154, u155, u156, u157, u158, u159, u160, u161, u162, u163, u164, u165, u166, u167, u168, u169, u170, u171, u172, u173, u174, v175, v176, v177, u178, u179, u180, u181, u182, u183, u184, u185, u186, u187, u188, u189, u190, u191, u192, u193, u194, u195, u196, u197, u198, u199, u200, u201, u202, u203, u204, u205, u206, u207, u208, u209, u210, u211, u212, u213, u214, u215, u216, u217, u218, u219], []⟩) ⟨#[S, .int .i64 a, .int .i64 m, .int .i64 b, f, u5, u6, u7, u8, u9, u10, u11, u12, u13, u14, u15, u16, u17, .int .i64 mid, .int .i64 n, .int .i64 s, u21, u22, u23, u24, u25, u26, u27, u28, u29, u30, u31, u32, u33, u34, u35, u36, u37, u38, u39, u40, u41, u42, u43, u44, u45, u46, u47, u48, u49, u50, u51, u52, u53, u54, u55, u56, u57, u58, u59, u60, u61, u62, u63, u64, u65, u66, u67, u68, u69, u70, u71, u72, u73, u74, u75, u76, u77, u78, u79, u80, u81, u82, u83, u84, u85, u86, u87, u88, u89, u90, u91, u92, u93, u94, u95, u96, u97, u98, u99, u100, u101, u102, u103, u104, u105, u106, u107, u108, u109, u110, u111, u112, u113, u114, u115, u116, u117, u118, u119, u120, u121, u122, u123, u124, u125, u126, u127, u128, u129, u130, u131, u132, u133, u134, u135, u136, u137, u138, u139, u140, u141, u142, u143, u144, u145, u146, u147, u148, u149, u150, u151, u152, u153, u154, u155, u156, u157, u158, u159, u160, u161, u162, u163, u164, u165, u166, u167, u168, u169, u170, u171, u172, u173, u174, u175, u176, u177, u178, u179, u180, u181, u182, u183, u184, u185, u186, u187, u188, u189, u190, u191, u192, u193, u194, u195, u196, u197, u198, u199, u200, u201, u202, u203, u204, u205, u206, u207, u208, u209, u210, u211, u212, u213, u214, u215, u216, u217, u218, u219], []⟩ w := by
  conv => arg 2; whnf
  go_wp2
set_option maxHeartbeats 2000000 in
theorem tail {u5 u6 u7 u8 u9 u10 u11 u12 u13 u14 u15 u16 u17 u21 u22 u23 u25 u26 u27 u28 u29 u30 u31 u32 u33 u34 u35 u36 u37 u38 u39 u40 u41 u42 u43 u44 u45 u46 u47 u48 u49 u50 u51 u52 u53 u54 u55 u56 u57 u58 u59 u60 u61 u62 u63 u64 u65 u66 u67 u68 u69 u70 u71 u72 u73 u74 u75 u76 u77 u78 u79 u80 u81 u82 u83 u84 u85 u86 u87 u88 u89 u90 u91 u92 u93 u94 u95 u96 u97 u98 u99 u100 u101 u102 u103 u104 u105 u106 u107 u108 u109 u110 u111 u112 u113 u114 u115 u116 u117 u118 u119 u120 u121 u122 u123 u124 u125 u126 u127 u128 u129 u130 u131 u132 u133 u134 u135 u136 u137 u138 u139 u140 u141 u142 u143 u144 u145 u146 u147 u148 u149 u150 u151 u152 u153 u154 u155 u156 u157 u158 u159 u160 u161 u162 u163 u164 u165 u166 u167 u168 u169 u170 u171 u172 u173 u174 u175 u176 u177 u178 u179 u180 u181 u182 u183 u184 u185 u186 u187 u188 u189 u190 u191 u192 u193 u194 u195 u196 u197 u198 u199 u200 u201 u202 u203 u204 u205 u206 u207 u208 u209 u210 u211 u212 u213 u214 u215 u216 u217 u218 u219 u24 : Value} {X1 X2 Z : World → Prop} (S f : Value) (a m b mid s e : Nat) (n : Int) (w : World) (h : n - (s : Int) = (e : Int)) (h1 : 0 ≤ n) (h2 : n ≤ 10000)
    (hr : s < m → m < e → Calls Try.prog 56 #[S, .int .i64 s, .int .i64 m, .int .i64 e, f] w fun x w' => x = .returned (.tuple #[]) ∧ X1 w') (hr0 : ¬ (s < m ∧ m < e) → X1 w)
    (hl : ∀ w, X1 w → (a < s → s < mid → Calls Try.prog 47 #[S, .int .i64 a, .int .i64 s, .int .i64 mid, f] w fun x w' => x = .returned (.tuple #[]) ∧ X2 w') ∧ (¬ (a < s ∧ s < mid) → X2 w))
    (hh : ∀ w, X2 w → (mid < e → e < b → Calls Try.prog 47 #[S, .int .i64 mid, .int .i64 e, .int .i64 b, f] w fun x w' => x = .returned (.tuple #[]) ∧ Z w') ∧ (¬ (mid < e ∧ e < b) → Z w)) :
    (bC 8).wp Try.prog (fun x a1 w1 => x = .normal ∧ a1.defers = [] ∧ Z w1) ⟨#[S, .int .i64 a, .int .i64 m, .int .i64 b, f, u5, u6, u7, u8, u9, u10, u11, u12, u13, u14, u15, u16, u17, .int .i64 mid, .int .i64 n, .int .i64 s, u21, u22, u23, u24, u25, u26, u27, u28, u29, u30, u31, u32, u33, u34, u35, u36, u37, u38, u39, u40, u41, u42, u43, u44, u45, u46, u47, u48, u49, u50, u51, u52, u53, u54, u55, u56, u57, u58, u59, u60, u61, u62, u63, u64, u65, u66, u67, u68, u69, u70, u71, u72, u73, u74, u75, u76, u77, u78, u79, u80, u81, u82, u83, u84, u85, u86, u87, u88, u89, u90, u91, u92, u93, u94, u95, u96, u97, u98, u99, u100, u101, u102, u103, u104, u105, u106, u107, u108, u109, u110, u111, u112, u113, u114, u115, u116, u117, u118, u119, u120, u121, u122, u123, u124, u125, u126, u127, u128, u129, u130, u131, u132, u133, u134, u135, u136, u137, u138, u139, u140, u141, u142, u143, u144, u145, u146, u147, u148, u149, u150, u151, u152, u153, u154, u155, u156, u157, u158, u159, u160, u161, u162, u163, u164, u165, u166, u167, u168, u169, u170, u171, u172, u173, u174, u175, u176, u177, u178, u179, u180, u181, u182, u183, u184, u185, u186, u187, u188, u189, u190, u191, u192, u193, u194, u195, u196, u197, u198, u199, u200, u201, u202, u203, u204, u205, u206, u207, u208, u209, u210, u211, u212, u213, u214, u215, u216, u217, u218, u219], []⟩ w := by
  show (Code.seq (fC (bC 8)) (bC 9)).wp _ _ _ _
  refine wp_seq (wp_mono (t38 S f a m b mid s e n w h h1 h2) ?_)
  rintro x a1 w1 ⟨rfl, rfl, v175, v176, v177, rfl⟩
  show (Code.seq (fC (bC 9)) (bC 10)).wp _ _ _ _
  refine wp_seq (wp_mono (t39 (X := X1) S f a m b mid s e w1 hr hr0) ?_)
  rintro x a1 w2 ⟨rfl, hx1, hv⟩
  obtain ⟨v178, v179, v180, v181, v182, v183, v184, v185, v186, v187, v188, v189, v190, v191, rfl⟩ := hv
  obtain ⟨hl1, hl2⟩ := hl w2 hx1
  show (Code.seq (fC (bC 10)) (bC 11)).wp _ _ _ _
  refine wp_seq (wp_mono (t41 (X := X2) S f a m b mid s e w2 hl1 hl2) ?_)
  rintro x a1 w3 ⟨rfl, hx2, hv⟩
  obtain ⟨v192, v193, v194, v195, v196, v197, v198, v199, v200, v201, v202, v203, v204, v205, rfl⟩ := hv
  obtain ⟨hh1, hh2⟩ := hh w3 hx2
  refine wp_mono (t43 (X := Z) S f a m b mid s e w3 hh1 hh2) ?_
  rintro x a1 w4 ⟨rfl, hz, hv⟩
  obtain ⟨v206, v207, v208, v209, v210, v211, v212, v213, v214, v215, v216, v217, v218, v219, rfl⟩ := hv
  exact ⟨rfl, rfl, hz⟩
end Go.Proofs.Ytanihbflgolciaa
/- slices' symMerge at ints, in pieces: the search. -/
namespace Go.Proofs.Ytanihbflgolciaa
open Go.RowKit Go.Lib Go.Sort
set_option linter.unusedVariables false
set_option maxRecDepth 100000
set_option maxHeartbeats 16000000 in
theorem lp {u1 u2 u3 u5 u6 u7 u8 u9 u10 u11 u12 u13 u14 u15 u16 u17 u18 u19 u23 u24 u25 u26 u27 u28 u29 u30 u31 u32 u33 u34 u35 u36 u37 u38 u39 u40 u41 u42 u43 u44 u45 u46 u47 u48 u49 u50 u51 u52 u53 u54 u55 u56 u57 u58 u59 u60 u61 u62 u63 u64 u65 u66 u67 u68 u69 u70 u71 u72 u73 u74 u75 u76 u77 u78 u79 u80 u81 u82 u83 u84 u85 u86 u87 u88 u89 u90 u91 u92 u93 u94 u95 u96 u97 u98 u99 u100 u101 u102 u103 u104 u105 u106 u107 u108 u109 u110 u111 u112 u113 u114 u115 u116 u117 u118 u119 u120 u121 u122 u123 u124 u125 u126 u127 u128 u129 u130 u131 u132 u133 u134 u135 u136 u137 u138 u139 u140 u141 u142 u143 u144 u145 u146 u147 u148 u149 u150 u151 u152 u153 u154 u155 u156 u157 u158 u159 u160 u161 u162 u163 u164 u165 u166 u167 u168 u169 u170 u171 u172 u173 u174 u175 u176 u177 u178 u179 u180 u181 u182 u183 u184 u185 u186 u187 u188 u189 u190 u191 u192 u193 u194 u195 u196 u197 u198 u199 u200 u201 u202 u203 u204 u205 u206 u207 u208 u209 u210 u211 u212 u213 u214 u215 u216 u217 u218 u219 : Value} (cf : Fin 256 → Fin 256 → Int) (g : Nat) (cb : Array Value) (eg : ∀ args w, (callFunc g args).run Try.prog w = .ok (.enter g args) w) (blk c : Nat) (d0 dk : Array (Fin 256)) (w0 w : World) (N lo r0 p : Nat) (hcmp : CmpLays1 Try.prog g cb encF cf blk 0 d0.size w0)
    (R : Row1 encF w0 blk 0 d0) (hs : dk.size = d0.size) (S : SW encF w0 blk 0 dk w) (hN : dk.size = N) (hN2 : N ≤ 1000) (hl : lo ≤ r0) (hp2 : p ≤ 5000)
    (hrb : ∀ h k, lo ≤ h → h < r0 → k + h = p → k < N ∧ h < N ∧ rF cf dk[k]! dk[h]! = decide (cf dk[k]! dk[h]! < 0)) (hpl : r0 ≤ p + 1) :
    (fC (bC 7)).wp Try.prog (fun x a1 w1 => x = .normal ∧ ∃ s : Nat, lo ≤ s ∧ s ≤ r0 ∧ SW encF w0 blk 0 dk w1 ∧ ((lo < s → rF cf dk[p + 1 - s]! dk[s - 1]! = false) ∧ (s < r0 → rF cf dk[p - s]! dk[s]! = true)) ∧ ∃ v23 v149 v150 v151 v152 v153 v154 v155 v156 v157 v158 v159 v160 v161 v162 v163 v164 v165 v166 v167 v168 v169 v170 v171 v172 v173 v174, a1 = ⟨#[.slice (some ⟨blk, 0, none⟩) N c, u1, u2, u3, .func (.func g) #[] cb, u5, u6, u7, u8, u9, u10, u11, u12, u13, u14, u15, u16, u17, u18, u19, .int .i64 s, .int .i64 s, .int .i64 p, v23, u24, u25, u26, u27, u28, u29, u30, u31, u32, u33, u34, u35, u36, u37, u38, u39, u40, u41, u42, u43, u44, u45, u46, u47, u48, u49, u50, u51, u52, u53, u54, u55, u56, u57, u58, u59, u60, u61, u62, u63, u64, u65, u66, u67, u68, u69, u70, u71, u72, u73, u74, u75, u76, u77, u78, u79, u80, u81, u82, u83, u84, u85, u86, u87, u88, u89, u90, u91, u92, u93, u94, u95, u96, u97, u98, u99, u100, u101, u102, u103, u104, u105, u106, u107, u108, u109, u110, u111, u112, u113, u114, u115, u116, u117, u118, u119, u120, u121, u122, u123, u124, u125, u126, u127, u128, u129, u130, u131, u132, u133, u134, u135, u136, u137, u138, u139, u140, u141, u142, u143, u144, u145, u146, u147, u148, v149, v150, v151, v152, v153, v154, v155, v156, v157, v158, v159, v160, v161, v162, v163, v164, v165, v166, v167, v168, v169, v170, v171, v172, v173, v174, u175, u176, u177, u178, u179, u180, u181, u182, u183, u184, u185, u186, u187, u188, u189, u190, u191, u192, u193, u194, u195, u196, u197, u198, u199, u200, u201, u202, u203, u204, u205, u206, u207, u208, u209, u210, u211, u212, u213, u214, u215, u216, u217, u218, u219], []⟩) ⟨#[.slice (some ⟨blk, 0, none⟩) N c, u1, u2, u3, .func (.func g) #[] cb, u5, u6, u7, u8, u9, u10, u11, u12, u13, u14, u15, u16, u17, u18, u19, .int .i64 lo, .int .i64 r0, .int .i64 p, u23, u24, u25, u26, u27, u28, u29, u30, u31, u32, u33, u34, u35, u36, u37, u38, u39, u40, u41, u42, u43, u44, u45, u46, u47, u48, u49, u50, u51, u52, u53, u54, u55, u56, u57, u58, u59, u60, u61, u62, u63, u64, u65, u66, u67, u68, u69, u70, u71, u72, u73, u74, u75, u76, u77, u78, u79, u80, u81, u82, u83, u84, u85, u86, u87, u88, u89, u90, u91, u92, u93, u94, u95, u96, u97, u98, u99, u100, u101, u102, u103, u104, u105, u106, u107, u108, u109, u110, u111, u112, u113, u114, u115, u116, u117, u118, u119, u120, u121, u122, u123, u124, u125, u126, u127, u128, u129, u130, u131, u132, u133, u134, u135, u136, u137, u138, u139, u140, u141, u142, u143, u144, u145, u146, u147, u148, u149, u150, u151, u152, u153, u154, u155, u156, u157, u158, u159, u160, u161, u162, u163, u164, u165, u166, u167, u168, u169, u170, u171, u172, u173, u174, u175, u176, u177, u178, u179, u180, u181, u182, u183, u184, u185, u186, u187, u188, u189, u190, u191, u192, u193, u194, u195, u196, u197, u198, u199, u200, u201, u202, u203, u204, u205, u206, u207, u208, u209, u210, u211, u212, u213, u214, u215, u216, u217, u218, u219], []⟩ w := by
  have mixed : Try.prog.follows .mixedOrders = true := by kernel_rfl
  have hcl0 := R.hO.cells
  simp only [Value.cells] at hcl0
  have hst := R.hO.store Try.prog
  have HS0 := Lib.hid S
  have HN := Lib.hid hN
  have HR := Lib.hid R
  have Hs := Lib.hid hs
  have HC := Lib.hid hcmp
  have HRB := Lib.hid hrb
  clear S hN R hs hcmp hrb
  conv => arg 2; whnf
  go_wp2
  go_loopw [20, 21] (fun vi vj wr => ∃ (s r : Nat), vi = .int .i64 s ∧ vj = .int .i64 r ∧ lo ≤ s ∧ s ≤ r ∧ r ≤ r0 ∧ Hid (SW encF w0 blk 0 dk wr) ∧ Hid ((lo < s → rF cf dk[p + 1 - s]! dk[s - 1]! = false) ∧ (r < r0 → rF cf dk[p - r]! dk[r]! = true))) (fun vi vj _ => (RowKit.intOf vj).toNat - (RowKit.intOf vi).toNat)
  case atStart => exact ⟨lo, r0, rfl, rfl, Nat.le_refl _, hl, Nat.le_refl _, HS0, (show Hid _ from ⟨fun h => absurd h (Nat.lt_irrefl _), fun h => absurd h (Nat.lt_irrefl _)⟩)⟩
  case round =>
    clear HS0
    obtain ⟨s, r, rfl, rfl, hls, hsr, hrr, HS, HB⟩ := hrel
    by_cases hlt : s < r
    · obtain ⟨h, hh⟩ : ∃ h, h = (s + r) / 2 := ⟨_, rfl⟩
      have zh : ((s : Int) + (r : Int)) / 2 = (h : Int) := by omega
      have hh1 : s ≤ h := by omega
      have hh2 : h < r := by omega
      clear hh
      obtain ⟨k, hk⟩ : ∃ k, k + h = p := ⟨p - h, by omega⟩
      obtain ⟨hk2, hh3, hrb⟩ := HRB.out h k (by omega) (by omega) hk
      have HRB1 := Lib.hid hrb
      clear hrb
      have zk : (p : Int) - (h : Int) = (k : Int) := by omega
      have rk : IntKind.i64.wrap (k : Int) = (k : Int) := by rw [IntKind.wrap_i64]; omega
      have rk2 : IntKind.i64.wrap ((p : Int) - (h : Int)) = (k : Int) := by rw [IntKind.wrap_i64]; omega
      have pk : (0 : Int) ≤ (k : Int) := by omega
      have bh : (h : Int) < (N : Int) := by omega
      have bk : (k : Int) < (N : Int) := by omega
      have l1 := HS.out.cl HR.out Hs.out k (by rw [HN.out]; omega)
      have l2 := HS.out.cl HR.out Hs.out h (by rw [HN.out]; omega)
      have hc := HS.out.cmp HC.out Hs.out dk[k]! dk[h]!
      simp only [Nat.zero_add] at l1 l2
      obtain ⟨x, hx⟩ : ∃ x, x = dk[k]! := ⟨_, rfl⟩
      obtain ⟨y, hy⟩ : ∃ y, y = dk[h]! := ⟨_, rfl⟩
      rw [← hx] at l1
      rw [← hy] at l2
      rw [← hx, ← hy] at hc
      have HX := Lib.hid hx
      have HY := Lib.hid hy
      have HK := Lib.hid hk
      clear hx hy hk
      by_cases hv : cf x y < 0
      · have hd : decide (cf x y < 0) = true := decide_eq_true hv
        have HV : Hid (rF cf dk[k]! dk[h]! = true) := by show _ = _; rw [HRB1.out, ← HX.out, ← HY.out]; exact hd
        go_wp2_with fail
        go_quiet_grown (first | (go_at_fn g; refine Calls.grown_of (hc _ _)))
        have S2 : Hid (SW encF w0 blk 0 dk (grow (wr.drewN nq) osq)) := HS.out.grown nq osq
        clear l1 l2 hc HS
        generalize grow (wr.drewN nq) osq = w2 at S2 ⊢
        clear nq osq
        go_wp2
        go_roundw
        case rel => exact ⟨s, h, rfl, by go_num, hls, hh1, by omega, S2, (show Hid _ from ⟨HB.out.1, fun _ => by rw [show p - h = k by have := HK.out; omega]; exact HV.out⟩)⟩
        case measure => simp [RowKit.intOf]; omega
      · have hd : decide (cf x y < 0) = false := decide_eq_false hv
        have HV : Hid (rF cf dk[k]! dk[h]! = false) := by show _ = _; rw [HRB1.out, ← HX.out, ← HY.out]; exact hd
        go_wp2_with fail
        go_quiet_grown (first | (go_at_fn g; refine Calls.grown_of (hc _ _)))
        have S2 : Hid (SW encF w0 blk 0 dk (grow (wr.drewN nq) osq)) := HS.out.grown nq osq
        clear l1 l2 hc HS
        generalize grow (wr.drewN nq) osq = w2 at S2 ⊢
        clear nq osq
        go_wp2
        go_roundw
        case rel => exact ⟨h + 1, r, by go_num, rfl, by omega, by omega, hrr, S2, (show Hid _ from ⟨fun _ => by rw [show p + 1 - (h + 1) = k by have := HK.out; omega, Nat.add_sub_cancel]; exact HV.out, HB.out.2⟩)⟩
        case measure => simp [RowKit.intOf]; omega
    · obtain rfl : s = r := by omega
      go_wp2
      exact ⟨s, hls, hrr, HS.out, HB.out, by simp⟩
end Go.Proofs.Ytanihbflgolciaa
/- slices' symMerge at ints, in pieces: what stands ahead of the search. -/
namespace Go.Proofs.Ytanihbflgolciaa
open Go.RowKit Go.Lib Go.Sort
set_option linter.unusedVariables false
set_option maxRecDepth 100000
theorem pA  (S f : Value) (a m b : Nat) (w : World) (hz : (((m : Int) - (a : Int)) == 1) = false) (h1 : a ≤ m) (h2 : m ≤ 1000) : (fC (bC 0)).wp Try.prog (fun x a1 w1 => x = .normal ∧ w1 = w ∧ ∃ v25 v26 v27 v28, a1 = ⟨#[S, .int .i64 a, .int .i64 m, .int .i64 b, f, undef, undef, undef, undef, undef, undef, undef, undef, undef, undef, undef, undef, undef, undef, undef, undef, undef, undef, undef, undef, v25, v26, v27, v28, undef, undef, undef, undef, undef, undef, undef, undef, undef, undef, undef, undef, undef, undef, undef, undef, undef, undef, undef, undef, undef, undef, undef, undef, undef, undef, undef, undef, undef, undef, undef, undef, undef, undef, undef, undef, undef, undef, undef, undef, undef, undef, undef, undef, undef, undef, undef, undef, undef, undef, undef, undef, undef, undef, undef, undef, undef, undef, undef, undef, undef, undef, undef, undef, undef, undef, undef, undef, undef, undef, undef, undef, undef, undef, undef, undef, undef, undef, undef, undef, undef, undef, undef, undef, undef, undef, undef, undef, undef, undef, undef, undef, undef, undef, undef, undef, undef, undef, undef, undef, undef, undef, undef, undef, undef, undef, undef, undef, undef, undef, undef, undef, undef, undef, undef, undef, undef, undef, undef, undef, undef, undef, undef, undef, undef, undef, undef, undef, undef, undef, undef, undef, undef, undef, undef, undef, undef, undef, undef, undef, undef, undef, undef, undef, undef, undef, undef, undef, undef, undef, undef, undef, undef, undef, undef, undef, undef, undef, undef, undef, undef, undef, undef, undef, undef, undef, undef, undef, undef, undef, undef, undef, undef, undef, undef, undef, undef, undef, undef, undef, undef, undef, undef, undef, undef, undef, undef, undef, undef, undef, undef], []⟩) ⟨#[S, .int .i64 a, .int .i64 m, .int .i64 b, f, undef, undef, undef, undef, undef, undef, undef, undef, undef, undef, undef, undef, undef, undef, undef, undef, undef, undef, undef, undef, undef, undef, undef, undef, undef, undef, undef, undef, undef, undef, undef, undef, undef, undef, undef, undef, undef, undef, undef, undef, undef, undef, undef, undef, undef, undef, undef, undef, undef, undef, undef, undef, undef, undef, undef, undef, undef, undef, undef, undef, undef, undef, undef, undef, undef, undef, undef, undef, undef, undef, undef, undef, undef, undef, undef, undef, undef, undef, undef, undef, undef, undef, undef, undef, undef, undef, undef, undef, undef, undef, undef, undef, undef, undef, undef, undef, undef, undef, undef, undef, undef, undef, undef, undef, undef, undef, undef, undef, undef, undef, undef, undef, undef, undef, undef, undef, undef, undef, undef, undef, undef, undef, undef, undef, undef, undef, undef, undef, undef, undef, undef, undef, undef, undef, undef, undef, undef, undef, undef, undef, undef, undef, undef, undef, undef, undef, undef, undef, undef, undef, undef, undef, undef, undef, undef, undef, undef, undef, undef, undef, undef, undef, undef, undef, undef, undef, undef, undef, undef, undef, undef, undef, undef, undef, undef, undef, undef, undef, undef, undef, undef, undef, undef, undef, undef, undef, undef, undef, undef, undef, undef, undef, undef, undef, undef, undef, undef, undef, undef, undef, undef, undef, undef, undef, undef, undef, undef, undef, undef, undef, undef, undef, undef, undef, undef], []⟩ w := by
  conv => arg 2; whnf
  go_wp2
theorem pB {v25 v26 v27 v28 : Value} (S f : Value) (a m b : Nat) (w : World) (hz : (((b : Int) - (m : Int)) == 1) = false) (h1 : m ≤ b) (h2 : b ≤ 1000) : (fC (bC 1)).wp Try.prog (fun x a1 w1 => x = .normal ∧ w1 = w ∧ ∃ v77 v78 v79 v80, a1 = ⟨#[S, .int .i64 a, .int .i64 m, .int .i64 b, f, undef, undef, undef, undef, undef, undef, undef, undef, undef, undef, undef, undef, undef, undef, undef, undef, undef, undef, undef, undef, v25, v26, v27, v28, undef, undef, undef, undef, undef, undef, undef, undef, undef, undef, undef, undef, undef, undef, undef, undef, undef, undef, undef, undef, undef, undef, undef, undef, undef, undef, undef, undef, undef, undef, undef, undef, undef, undef, undef, undef, undef, undef, undef, undef, undef, undef, undef, undef, undef, undef, undef, undef, v77, v78, v79, v80, undef, undef, undef, undef, undef, undef, undef, undef, undef, undef, undef, undef, undef, undef, undef, undef, undef, undef, undef, undef, undef, undef, undef, undef, undef, undef, undef, undef, undef, undef, undef, undef, undef, undef, undef, undef, undef, undef, undef, undef, undef, undef, undef, undef, undef, undef, undef, undef, undef, undef, undef, undef, undef, undef, undef, undef, undef, undef, undef, undef, undef, undef, undef, undef, undef, undef, undef, undef, undef, undef, undef, undef, undef, undef, undef, undef, undef, undef, undef, undef, undef, undef, undef, undef, undef, undef, undef, undef, undef, undef, undef, undef, undef, undef, undef, undef, undef, undef, undef, undef, undef, undef, undef, undef, undef, undef, undef, undef, undef, undef, undef, undef, undef, undef, undef, undef, undef, undef, undef, undef, undef, undef, undef, undef, undef, undef, undef, undef, undef, undef, undef, undef, undef, undef, undef, undef, undef, undef, undef], []⟩) ⟨#[S, .int .i64 a, .int .i64 m, .int .i64 b, f, undef, undef, undef, undef, undef, undef, undef, undef, undef, undef, undef, undef, undef, undef, undef, undef, undef, undef, undef, undef, v25, v26, v27, v28, undef, undef, undef, undef, undef, undef, undef, undef, undef, undef, undef, undef, undef, undef, undef, undef, undef, undef, undef, undef, undef, undef, undef, undef, undef, undef, undef, undef, undef, undef, undef, undef, undef, undef, undef, undef, undef, undef, undef, undef, undef, undef, undef, undef, undef, undef, undef, undef, undef, undef, undef, undef, undef, undef, undef, undef, undef, undef, undef, undef, undef, undef, undef, undef, undef, undef, undef, undef, undef, undef, undef, undef, undef, undef, undef, undef, undef, undef, undef, undef, undef, undef, undef, undef, undef, undef, undef, undef, undef, undef, undef, undef, undef, undef, undef, undef, undef, undef, undef, undef, undef, undef, undef, undef, undef, undef, undef, undef, undef, undef, undef, undef, undef, undef, undef, undef, undef, undef, undef, undef, undef, undef, undef, undef, undef, undef, undef, undef, undef, undef, undef, undef, undef, undef, undef, undef, undef, undef, undef, undef, undef, undef, undef, undef, undef, undef, undef, undef, undef, undef, undef, undef, undef, undef, undef, undef, undef, undef, undef, undef, undef, undef, undef, undef, undef, undef, undef, undef, undef, undef, undef, undef, undef, undef, undef, undef, undef, undef, undef, undef, undef, undef, undef, undef, undef, undef, undef, undef, undef, undef, undef], []⟩ w := by
  conv => arg 2; whnf
  go_wp2
theorem pC {v25 v26 v27 v28 v77 v78 v79 v80 : Value} (S f : Value) (a m b : Nat) (w : World) (mid : Nat) (zM : ((a : Int) + (b : Int)) / 2 = (mid : Int)) (h1 : a ≤ 1000) (h2 : b ≤ 1000) : (fC (bC 2)).wp Try.prog (fun x a1 w1 => x = .normal ∧ w1 = w ∧ ∃ v129 v130 v131 v132 v133 v134, a1 = ⟨#[S, .int .i64 a, .int .i64 m, .int .i64 b, f, undef, undef, undef, undef, undef, undef, undef, undef, undef, undef, undef, undef, undef, .int .i64 mid, undef, undef, undef, undef, undef, undef, v25, v26, v27, v28, undef, undef, undef, undef, undef, undef, undef, undef, undef, undef, undef, undef, undef, undef, undef, undef, undef, undef, undef, undef, undef, undef, undef, undef, undef, undef, undef, undef, undef, undef, undef, undef, undef, undef, undef, undef, undef, undef, undef, undef, undef, undef, undef, undef, undef, undef, undef, undef, v77, v78, v79, v80, undef, undef, undef, undef, undef, undef, undef, undef, undef, undef, undef, undef, undef, undef, undef, undef, undef, undef, undef, undef, undef, undef, undef, undef, undef, undef, undef, undef, undef, undef, undef, undef, undef, undef, undef, undef, undef, undef, undef, undef, undef, undef, undef, undef, undef, undef, undef, undef, v129, v130, v131, v132, v133, v134, undef, undef, undef, undef, undef, undef, undef, undef, undef, undef, undef, undef, undef, undef, undef, undef, undef, undef, undef, undef, undef, undef, undef, undef, undef, undef, undef, undef, undef, undef, undef, undef, undef, undef, undef, undef, undef, undef, undef, undef, undef, undef, undef, undef, undef, undef, undef, undef, undef, undef, undef, undef, undef, undef, undef, undef, undef, undef, undef, undef, undef, undef, undef, undef, undef, undef, undef, undef, undef, undef, undef, undef, undef, undef, undef, undef, undef, undef, undef, undef, undef, undef, undef, undef, undef], []⟩) ⟨#[S, .int .i64 a, .int .i64 m, .int .i64 b, f, undef, undef, undef, undef, undef, undef, undef, undef, undef, undef, undef, undef, undef, undef, undef, undef, undef, undef, undef, undef, v25, v26, v27, v28, undef, undef, undef, undef, undef, undef, undef, undef, undef, undef, undef, undef, undef, undef, undef, undef, undef, undef, undef, undef, undef, undef, undef, undef, undef, undef, undef, undef, undef, undef, undef, undef, undef, undef, undef, undef, undef, undef, undef, undef, undef, undef, undef, undef, undef, undef, undef, undef, v77, v78, v79, v80, undef, undef, undef, undef, undef, undef, undef, undef, undef, undef, undef, undef, undef, undef, undef, undef, undef, undef, undef, undef, undef, undef, undef, undef, undef, undef, undef, undef, undef, undef, undef, undef, undef, undef, undef, undef, undef, undef, undef, undef, undef, undef, undef, undef, undef, undef, undef, undef, undef, undef, undef, undef, undef, undef, undef, undef, undef, undef, undef, undef, undef, undef, undef, undef, undef, undef, undef, undef, undef, undef, undef, undef, undef, undef, undef, undef, undef, undef, undef, undef, undef, undef, undef, undef, undef, undef, undef, undef, undef, undef, undef, undef, undef, undef, undef, undef, undef, undef, undef, undef, undef, undef, undef, undef, undef, undef, undef, undef, undef, undef, undef, undef, undef, undef, undef, undef, undef, undef, undef, undef, undef, undef, undef, undef, undef, undef, undef, undef, undef, undef, undef, undef, undef, undef, undef, undef, undef, undef, undef], []⟩ w := by
  conv => arg 2; whnf
  go_wp2
theorem pD {v25 v26 v27 v28 v77 v78 v79 v80 v129 v130 v131 v132 v133 v134 : Value} (S f : Value) (a m b : Nat) (w : World) (mid : Nat) (n : Int) (zn : (mid : Int) + (m : Int) = n) (h1 : mid ≤ 1000) (h2 : m ≤ 1000) : (fC (bC 3)).wp Try.prog (fun x a1 w1 => x = .normal ∧ w1 = w ∧ ∃ v135 v136 v137, a1 = ⟨#[S, .int .i64 a, .int .i64 m, .int .i64 b, f, undef, undef, undef, undef, undef, undef, undef, undef, undef, undef, undef, undef, undef, .int .i64 mid, .int .i64 n, undef, undef, undef, undef, undef, v25, v26, v27, v28, undef, undef, undef, undef, undef, undef, undef, undef, undef, undef, undef, undef, undef, undef, undef, undef, undef, undef, undef, undef, undef, undef, undef, undef, undef, undef, undef, undef, undef, undef, undef, undef, undef, undef, undef, undef, undef, undef, undef, undef, undef, undef, undef, undef, undef, undef, undef, undef, v77, v78, v79, v80, undef, undef, undef, undef, undef, undef, undef, undef, undef, undef, undef, undef, undef, undef, undef, undef, undef, undef, undef, undef, undef, undef, undef, undef, undef, undef, undef, undef, undef, undef, undef, undef, undef, undef, undef, undef, undef, undef, undef, undef, undef, undef, undef, undef, undef, undef, undef, undef, v129, v130, v131, v132, v133, v134, v135, v136, v137, undef, undef, undef, undef, undef, undef, undef, undef, undef, undef, undef, undef, undef, undef, undef, undef, undef, undef, undef, undef, undef, undef, undef, undef, undef, undef, undef, undef, undef, undef, undef, undef, undef, undef, undef, undef, undef, undef, undef, undef, undef, undef, undef, undef, undef, undef, undef, undef, undef, undef, undef, undef, undef, undef, undef, undef, undef, undef, undef, undef, undef, undef, undef, undef, undef, undef, undef, undef, undef, undef, undef, undef, undef, undef, undef, undef, undef, undef, undef, undef, undef, undef], []⟩) ⟨#[S, .int .i64 a, .int .i64 m, .int .i64 b, f, undef, undef, undef, undef, undef, undef, undef, undef, undef, undef, undef, undef, undef, .int .i64 mid, undef, undef, undef, undef, undef, undef, v25, v26, v27, v28, undef, undef, undef, undef, undef, undef, undef, undef, undef, undef, undef, undef, undef, undef, undef, undef, undef, undef, undef, undef, undef, undef, undef, undef, undef, undef, undef, undef, undef, undef, undef, undef, undef, undef, undef, undef, undef, undef, undef, undef, undef, undef, undef, undef, undef, undef, undef, undef, v77, v78, v79, v80, undef, undef, undef, undef, undef, undef, undef, undef, undef, undef, undef, undef, undef, undef, undef, undef, undef, undef, undef, undef, undef, undef, undef, undef, undef, undef, undef, undef, undef, undef, undef, undef, undef, undef, undef, undef, undef, undef, undef, undef, undef, undef, undef, undef, undef, undef, undef, undef, v129, v130, v131, v132, v133, v134, undef, undef, undef, undef, undef, undef, undef, undef, undef, undef, undef, undef, undef, undef, undef, undef, undef, undef, undef, undef, undef, undef, undef, undef, undef, undef, undef, undef, undef, undef, undef, undef, undef, undef, undef, undef, undef, undef, undef, undef, undef, undef, undef, undef, undef, undef, undef, undef, undef, undef, undef, undef, undef, undef, undef, undef, undef, undef, undef, undef, undef, undef, undef, undef, undef, undef, undef, undef, undef, undef, undef, undef, undef, undef, undef, undef, undef, undef, undef, undef, undef, undef, undef, undef, undef], []⟩ w := by
  conv => arg 2; whnf
  go_wp2
theorem pE {v25 v26 v27 v28 v77 v78 v79 v80 v129 v130 v131 v132 v133 v134 v135 v136 v137 : Value} (S f : Value) (a m b : Nat) (w : World) (mid : Nat) (n : Int) : (fC (bC 4)).wp Try.prog (fun x a1 w1 => x = .normal ∧ w1 = w ∧ a1 = ⟨#[S, .int .i64 a, .int .i64 m, .int .i64 b, f, undef, undef, undef, undef, undef, undef, undef, undef, undef, undef, undef, undef, undef, .int .i64 mid, .int .i64 n, .int .i64 0, .int .i64 0, undef, undef, undef, v25, v26, v27, v28, undef, undef, undef, undef, undef, undef, undef, undef, undef, undef, undef, undef, undef, undef, undef, undef, undef, undef, undef, undef, undef, undef, undef, undef, undef, undef, undef, undef, undef, undef, undef, undef, undef, undef, undef, undef, undef, undef, undef, undef, undef, undef, undef, undef, undef, undef, undef, undef, v77, v78, v79, v80, undef, undef, undef, undef, undef, undef, undef, undef, undef, undef, undef, undef, undef, undef, undef, undef, undef, undef, undef, undef, undef, undef, undef, undef, undef, undef, undef, undef, undef, undef, undef, undef, undef, undef, undef, undef, undef, undef, undef, undef, undef, undef, undef, undef, undef, undef, undef, undef, v129, v130, v131, v132, v133, v134, v135, v136, v137, undef, undef, undef, undef, undef, undef, undef, undef, undef, undef, undef, undef, undef, undef, undef, undef, undef, undef, undef, undef, undef, undef, undef, undef, undef, undef, undef, undef, undef, undef, undef, undef, undef, undef, undef, undef, undef, undef, undef, undef, undef, undef, undef, undef, undef, undef, undef, undef, undef, undef, undef, undef, undef, undef, undef, undef, undef, undef, undef, undef, undef, undef, undef, undef, undef, undef, undef, undef, undef, undef, undef, undef, undef, undef, undef, undef, undef, undef, undef, undef, undef, undef], []⟩) ⟨#[S, .int .i64 a, .int .i64 m, .int .i64 b, f, undef, undef, undef, undef, undef, undef, undef, undef, undef, undef, undef, undef, undef, .int .i64 mid, .int .i64 n, undef, undef, undef, undef, undef, v25, v26, v27, v28, undef, undef, undef, undef, undef, undef, undef, undef, undef, undef, undef, undef, undef, undef, undef, undef, undef, undef, undef, undef, undef, undef, undef, undef, undef, undef, undef, undef, undef, undef, undef, undef, undef, undef, undef, undef, undef, undef, undef, undef, undef, undef, undef, undef, undef, undef, undef, undef, v77, v78, v79, v80, undef, undef, undef, undef, undef, undef, undef, undef, undef, undef, undef, undef, undef, undef, undef, undef, undef, undef, undef, undef, undef, undef, undef, undef, undef, undef, undef, undef, undef, undef, undef, undef, undef, undef, undef, undef, undef, undef, undef, undef, undef, undef, undef, undef, undef, undef, undef, undef, v129, v130, v131, v132, v133, v134, v135, v136, v137, undef, undef, undef, undef, undef, undef, undef, undef, undef, undef, undef, undef, undef, undef, undef, undef, undef, undef, undef, undef, undef, undef, undef, undef, undef, undef, undef, undef, undef, undef, undef, undef, undef, undef, undef, undef, undef, undef, undef, undef, undef, undef, undef, undef, undef, undef, undef, undef, undef, undef, undef, undef, undef, undef, undef, undef, undef, undef, undef, undef, undef, undef, undef, undef, undef, undef, undef, undef, undef, undef, undef, undef, undef, undef, undef, undef, undef, undef, undef, undef, undef, undef], []⟩ w := by
  conv => arg 2; whnf
  go_wp2
theorem pF {v25 v26 v27 v28 v77 v78 v79 v80 v129 v130 v131 v132 v133 v134 v135 v136 v137 : Value} (S f : Value) (a m b mid : Nat) (n : Int) (w : World) (lo hi : Nat) (hcase : (mid < m ∧ n - (b : Int) = (lo : Int) ∧ hi = mid) ∨ (m ≤ mid ∧ lo = a ∧ hi = m)) (h1 : 0 ≤ n) (h2 : n ≤ 5000) (h3 : b ≤ 1000) : (fC (bC 5)).wp Try.prog (fun x a1 w1 => x = .normal ∧ w1 = w ∧ ∃ v138 v139 v140 v141 v142 v143 v144 v145 v146, a1 = ⟨#[S, .int .i64 a, .int .i64 m, .int .i64 b, f, undef, undef, undef, undef, undef, undef, undef, undef, undef, undef, undef, undef, undef, .int .i64 mid, .int .i64 n, .int .i64 lo, .int .i64 hi, undef, undef, undef, v25, v26, v27, v28, undef, undef, undef, undef, undef, undef, undef, undef, undef, undef, undef, undef, undef, undef, undef, undef, undef, undef, undef, undef, undef, undef, undef, undef, undef, undef, undef, undef, undef, undef, undef, undef, undef, undef, undef, undef, undef, undef, undef, undef, undef, undef, undef, undef, undef, undef, undef, undef, v77, v78, v79, v80, undef, undef, undef, undef, undef, undef, undef, undef, undef, undef, undef, undef, undef, undef, undef, undef, undef, undef, undef, undef, undef, undef, undef, undef, undef, undef, undef, undef, undef, undef, undef, undef, undef, undef, undef, undef, undef, undef, undef, undef, undef, undef, undef, undef, undef, undef, undef, undef, v129, v130, v131, v132, v133, v134, v135, v136, v137, v138, v139, v140, v141, v142, v143, v144, v145, v146, undef, undef, undef, undef, undef, undef, undef, undef, undef, undef, undef, undef, undef, undef, undef, undef, undef, undef, undef, undef, undef, undef, undef, undef, undef, undef, undef, undef, undef, undef, undef, undef, undef, undef, undef, undef, undef, undef, undef, undef, undef, undef, undef, undef, undef, undef, undef, undef, undef, undef, undef, undef, undef, undef, undef, undef, undef, undef, undef, undef, undef, undef, undef, undef, undef, undef, undef, undef, undef, undef, undef, undef, undef], []⟩) ⟨#[S, .int .i64 a, .int .i64 m, .int .i64 b, f, undef, undef, undef, undef, undef, undef, undef, undef, undef, undef, undef, undef, undef, .int .i64 mid, .int .i64 n, .int .i64 0, .int .i64 0, undef, undef, undef, v25, v26, v27, v28, undef, undef, undef, undef, undef, undef, undef, undef, undef, undef, undef, undef, undef, undef, undef, undef, undef, undef, undef, undef, undef, undef, undef, undef, undef, undef, undef, undef, undef, undef, undef, undef, undef, undef, undef, undef, undef, undef, undef, undef, undef, undef, undef, undef, undef, undef, undef, undef, v77, v78, v79, v80, undef, undef, undef, undef, undef, undef, undef, undef, undef, undef, undef, undef, undef, undef, undef, undef, undef, undef, undef, undef, undef, undef, undef, undef, undef, undef, undef, undef, undef, undef, undef, undef, undef, undef, undef, undef, undef, undef, undef, undef, undef, undef, undef, undef, undef, undef, undef, undef, v129, v130, v131, v132, v133, v134, v135, v136, v137, undef, undef, undef, undef, undef, undef, undef, undef, undef, undef, undef, undef, undef, undef, undef, undef, undef, undef, undef, undef, undef, undef, undef, undef, undef, undef, undef, undef, undef, undef, undef, undef, undef, undef, undef, undef, undef, undef, undef, undef, undef, undef, undef, undef, undef, undef, undef, undef, undef, undef, undef, undef, undef, undef, undef, undef, undef, undef, undef, undef, undef, undef, undef, undef, undef, undef, undef, undef, undef, undef, undef, undef, undef, undef, undef, undef, undef, undef, undef, undef, undef, undef], []⟩ w := by
  conv => arg 2; whnf
  rcases hcase with ⟨c1, c2, rfl⟩ | ⟨c1, rfl, rfl⟩
  · have z1 : (hi : Int) < (m : Int) := by omega
    go_wp2
  · have z1 : ¬ (mid : Int) < (hi : Int) := by omega
    go_wp2
theorem pG {v25 v26 v27 v28 v77 v78 v79 v80 v129 v130 v131 v132 v133 v134 v135 v136 v137 v138 v139 v140 v141 v142 v143 v144 v145 v146 : Value} (S f : Value) (a m b mid : Nat) (n : Int) (w : World) (lo hi p : Nat) (hp : n - 1 = (p : Int)) (h1 : 0 ≤ n) (h2 : n ≤ 5000) : (fC (bC 6)).wp Try.prog (fun x a1 w1 => x = .normal ∧ w1 = w ∧ ∃ v147 v148, a1 = ⟨#[S, .int .i64 a, .int .i64 m, .int .i64 b, f, undef, undef, undef, undef, undef, undef, undef, undef, undef, undef, undef, undef, undef, .int .i64 mid, .int .i64 n, .int .i64 lo, .int .i64 hi, .int .i64 p, undef, undef, v25, v26, v27, v28, undef, undef, undef, undef, undef, undef, undef, undef, undef, undef, undef, undef, undef, undef, undef, undef, undef, undef, undef, undef, undef, undef, undef, undef, undef, undef, undef, undef, undef, undef, undef, undef, undef, undef, undef, undef, undef, undef, undef, undef, undef, undef, undef, undef, undef, undef, undef, undef, v77, v78, v79, v80, undef, undef, undef, undef, undef, undef, undef, undef, undef, undef, undef, undef, undef, undef, undef, undef, undef, undef, undef, undef, undef, undef, undef, undef, undef, undef, undef, undef, undef, undef, undef, undef, undef, undef, undef, undef, undef, undef, undef, undef, undef, undef, undef, undef, undef, undef, undef, undef, v129, v130, v131, v132, v133, v134, v135, v136, v137, v138, v139, v140, v141, v142, v143, v144, v145, v146, v147, v148, undef, undef, undef, undef, undef, undef, undef, undef, undef, undef, undef, undef, undef, undef, undef, undef, undef, undef, undef, undef, undef, undef, undef, undef, undef, undef, undef, undef, undef, undef, undef, undef, undef, undef, undef, undef, undef, undef, undef, undef, undef, undef, undef, undef, undef, undef, undef, undef, undef, undef, undef, undef, undef, undef, undef, undef, undef, undef, undef, undef, undef, undef, undef, undef, undef, undef, undef, undef, undef, undef, undef], []⟩) ⟨#[S, .int .i64 a, .int .i64 m, .int .i64 b, f, undef, undef, undef, undef, undef, undef, undef, undef, undef, undef, undef, undef, undef, .int .i64 mid, .int .i64 n, .int .i64 lo, .int .i64 hi, undef, undef, undef, v25, v26, v27, v28, undef, undef, undef, undef, undef, undef, undef, undef, undef, undef, undef, undef, undef, undef, undef, undef, undef, undef, undef, undef, undef, undef, undef, undef, undef, undef, undef, undef, undef, undef, undef, undef, undef, undef, undef, undef, undef, undef, undef, undef, undef, undef, undef, undef, undef, undef, undef, undef, v77, v78, v79, v80, undef, undef, undef, undef, undef, undef, undef, undef, undef, undef, undef, undef, undef, undef, undef, undef, undef, undef, undef, undef, undef, undef, undef, undef, undef, undef, undef, undef, undef, undef, undef, undef, undef, undef, undef, undef, undef, undef, undef, undef, undef, undef, undef, undef, undef, undef, undef, undef, v129, v130, v131, v132, v133, v134, v135, v136, v137, v138, v139, v140, v141, v142, v143, v144, v145, v146, undef, undef, undef, undef, undef, undef, undef, undef, undef, undef, undef, undef, undef, undef, undef, undef, undef, undef, undef, undef, undef, undef, undef, undef, undef, undef, undef, undef, undef, undef, undef, undef, undef, undef, undef, undef, undef, undef, undef, undef, undef, undef, undef, undef, undef, undef, undef, undef, undef, undef, undef, undef, undef, undef, undef, undef, undef, undef, undef, undef, undef, undef, undef, undef, undef, undef, undef, undef, undef, undef, undef, undef, undef], []⟩ w := by
  conv => arg 2; whnf
  go_wp2
set_option maxHeartbeats 4000000 in
theorem pro (S f : Value) (a m b mid lo hi p : Nat) (w : World) (Q : Exit → Act → World → Prop) (hz1 : (((m : Int) - (a : Int)) == 1) = false) (hz2 : (((b : Int) - (m : Int)) == 1) = false) (ham : a ≤ m) (hmb : m ≤ b) (hb : b ≤ 1000) (zM : ((a : Int) + (b : Int)) / 2 = (mid : Int)) (hp : p + 1 = mid + m)
    (hcase : (mid < m ∧ lo + b = mid + m ∧ hi = mid) ∨ (m ≤ mid ∧ lo = a ∧ hi = m))
    (k : ∀ v25 v26 v27 v28 v77 v78 v79 v80 v129 v130 v131 v132 v133 v134 v135 v136 v137 v138 v139 v140 v141 v142 v143 v144 v145 v146 v147 v148 : Value, (bC 7).wp Try.prog Q ⟨#[S, .int .i64 a, .int .i64 m, .int .i64 b, f, undef, undef, undef, undef, undef, undef, undef, undef, undef, undef, undef, undef, undef, .int .i64 mid, .int .i64 ((p + 1 : Nat) : Int), .int .i64 lo, .int .i64 hi, .int .i64 p, undef, undef, v25, v26, v27, v28, undef, undef, undef, undef, undef, undef, undef, undef, undef, undef, undef, undef, undef, undef, undef, undef, undef, undef, undef, undef, undef, undef, undef, undef, undef, undef, undef, undef, undef, undef, undef, undef, undef, undef, undef, undef, undef, undef, undef, undef, undef, undef, undef, undef, undef, undef, undef, undef, v77, v78, v79, v80, undef, undef, undef, undef, undef, undef, undef, undef, undef, undef, undef, undef, undef, undef, undef, undef, undef, undef, undef, undef, undef, undef, undef, undef, undef, undef, undef, undef, undef, undef, undef, undef, undef, undef, undef, undef, undef, undef, undef, undef, undef, undef, undef, undef, undef, undef, undef, undef, v129, v130, v131, v132, v133, v134, v135, v136, v137, v138, v139, v140, v141, v142, v143, v144, v145, v146, v147, v148, undef, undef, undef, undef, undef, undef, undef, undef, undef, undef, undef, undef, undef, undef, undef, undef, undef, undef, undef, undef, undef, undef, undef, undef, undef, undef, undef, undef, undef, undef, undef, undef, undef, undef, undef, undef, undef, undef, undef, undef, undef, undef, undef, undef, undef, undef, undef, undef, undef, undef, undef, undef, undef, undef, undef, undef, undef, undef, undef, undef, undef, undef, undef, undef, undef, undef, undef, undef, undef, undef, undef], []⟩ w) : (bC 0).wp Try.prog Q ⟨#[S, .int .i64 a, .int .i64 m, .int .i64 b, f, undef, undef, undef, undef, undef, undef, undef, undef, undef, undef, undef, undef, undef, undef, undef, undef, undef, undef, undef, undef, undef, undef, undef, undef, undef, undef, undef, undef, undef, undef, undef, undef, undef, undef, undef, undef, undef, undef, undef, undef, undef, undef, undef, undef, undef, undef, undef, undef, undef, undef, undef, undef, undef, undef, undef, undef, undef, undef, undef, undef, undef, undef, undef, undef, undef, undef, undef, undef, undef, undef, undef, undef, undef, undef, undef, undef, undef, undef, undef, undef, undef, undef, undef, undef, undef, undef, undef, undef, undef, undef, undef, undef, undef, undef, undef, undef, undef, undef, undef, undef, undef, undef, undef, undef, undef, undef, undef, undef, undef, undef, undef, undef, undef, undef, undef, undef, undef, undef, undef, undef, undef, undef, undef, undef, undef, undef, undef, undef, undef, undef, undef, undef, undef, undef, undef, undef, undef, undef, undef, undef, undef, undef, undef, undef, undef, undef, undef, undef, undef, undef, undef, undef, undef, undef, undef, undef, undef, undef, undef, undef, undef, undef, undef, undef, undef, undef, undef, undef, undef, undef, undef, undef, undef, undef, undef, undef, undef, undef, undef, undef, undef, undef, undef, undef, undef, undef, undef, undef, undef, undef, undef, undef, undef, undef, undef, undef, undef, undef, undef, undef, undef, undef, undef, undef, undef, undef, undef, undef, undef, undef, undef, undef, undef, undef, undef], []⟩ w := by
  have hmid : mid ≤ 1000 := by omega
  show (Code.seq (fC (bC 0)) (bC 1)).wp _ _ _ _
  refine wp_seq (wp_mono (pA S f a m b w hz1 ham (by omega)) ?_)
  rintro x a1 w1 ⟨rfl, rfl, v25, v26, v27, v28, rfl⟩
  show (Code.seq (fC (bC 1)) (bC 2)).wp _ _ _ _
  refine wp_seq (wp_mono (pB S f a m b w1 hz2 hmb hb) ?_)
  rintro x a1 w2 ⟨rfl, rfl, v77, v78, v79, v80, rfl⟩
  show (Code.seq (fC (bC 2)) (bC 3)).wp _ _ _ _
  refine wp_seq (wp_mono (pC S f a m b w2 mid zM (by omega) hb) ?_)
  rintro x a1 w3 ⟨rfl, rfl, v129, v130, v131, v132, v133, v134, rfl⟩
  show (Code.seq (fC (bC 3)) (bC 4)).wp _ _ _ _
  refine wp_seq (wp_mono (pD S f a m b w3 mid ((p + 1 : Nat) : Int) (by omega) hmid (by omega)) ?_)
  rintro x a1 w4 ⟨rfl, rfl, v135, v136, v137, rfl⟩
  show (Code.seq (fC (bC 4)) (bC 5)).wp _ _ _ _
  refine wp_seq (wp_mono (pE S f a m b w4 mid ((p + 1 : Nat) : Int)) ?_)
  rintro x a1 w5 ⟨rfl, rfl, rfl⟩
  show (Code.seq (fC (bC 5)) (bC 6)).wp _ _ _ _
  refine wp_seq (wp_mono (pF S f a m b mid ((p + 1 : Nat) : Int) w5 lo hi (by omega) (by omega) (by omega) hb) ?_)
  rintro x a1 w6 ⟨rfl, rfl, v138, v139, v140, v141, v142, v143, v144, v145, v146, rfl⟩
  show (Code.seq (fC (bC 6)) (bC 7)).wp _ _ _ _
  refine wp_seq (wp_mono (pG S f a m b mid ((p + 1 : Nat) : Int) w6 lo hi p (by omega) (by omega) (by omega)) ?_)
  rintro x a1 w7 ⟨rfl, rfl, v147, v148, rfl⟩
  exact k v25 v26 v27 v28 v77 v78 v79 v80 v129 v130 v131 v132 v133 v134 v135 v136 v137 v138 v139 v140 v141 v142 v143 v144 v145 v146 v147 v148
end Go.Proofs.Ytanihbflgolciaa
/- slices' symMerge at ints, in pieces: its contract, whole. -/
namespace Go.Proofs.Ytanihbflgolciaa
open Go.RowKit Go.Lib Go.Sort
set_option linter.unusedVariables false
set_option maxRecDepth 100000
theorem mrg_size {R : Fin 256 → Fin 256 → Bool} {a b : Nat} {d d' : Array (Fin 256)} (h : Mrg R a b d d') : d'.size = d.size := h.1.1
set_option maxHeartbeats 4000000 in
theorem fSym_any (cf : Fin 256 → Fin 256 → Int) (hSW : SWO (ltOf cf)) (g : Nat) (cb : Array Value) (eg : ∀ args w, (callFunc g args).run Try.prog w = .ok (.enter g args) w) (blk c : Nat) (d0 : Array (Fin 256)) (w0 : World) (hcmp : CmpLays1 Try.prog g cb encF cf blk 0 d0.size w0)
    (R : Row1 encF w0 blk 0 d0) (N : Nat) (hN2 : N ≤ 1000) : ∀ (fuel : Nat) (dk : Array (Fin 256)) (w : World) (a m b : Nat), b - a ≤ fuel → dk.size = d0.size → SW encF w0 blk 0 dk w → dk.size = N → a < m → m < b → b ≤ N → SortedIn (rF cf) a m dk → SortedIn (rF cf) m b dk → LR Fin.val a m b dk →
    Calls Try.prog 47 #[.slice (some ⟨blk, 0, none⟩) N c, .int .i64 a, .int .i64 m, .int .i64 b, .func (.func g) #[] cb] w fun e w' => e = .returned (.tuple #[]) ∧ ∃ d', Mrg (rF cf) a b dk d' ∧ SW encF w0 blk 0 d' w'
  | 0, dk, w, a, m, b, hf, _, _, _, h1, h2, _, _, _, _ => by omega
  | fuel + 1, dk, w, a, m, b, hf, hs, S, hN, ham, hmb, hb, h1, h2, hLR => by
    by_cases cA : m = a + 1
    · subst cA
      exact fSymA_any cf hSW g cb eg blk c d0 dk w0 w hcmp R hs S a b N hN (by omega) hb hN2 h2 hLR
    by_cases cB : b = m + 1
    · subst cB
      exact fSymB_any cf hSW g cb eg blk c d0 dk w0 w hcmp R hs S a m N hN (by omega) hb hN2 h1 hLR
    have IH := fSym_any cf hSW g cb eg blk c d0 w0 hcmp R N hN2 fuel
    have hRSW := rB_swo hSW Fin.val
    have zA : (((m : Int) - (a : Int)) == 1) = false := by simp; omega
    have zB : (((b : Int) - (m : Int)) == 1) = false := by simp; omega
    obtain ⟨mid, hmid⟩ : ∃ x, x = (a + b) / 2 := ⟨_, rfl⟩
    have zM : ((a : Int) + (b : Int)) / 2 = (mid : Int) := by omega
    have hma : a < mid := by omega
    have hmb2 : mid < b := by omega
    obtain ⟨lo, hlo⟩ : ∃ lo : Nat, (lo = a ∧ m ≤ mid) ∨ (lo + b = mid + m ∧ mid < m) := by
      by_cases h : m ≤ mid
      · exact ⟨a, .inl ⟨rfl, h⟩⟩
      · exact ⟨mid + m - b, .inr ⟨by omega, by omega⟩⟩
    obtain ⟨r0, hr0⟩ : ∃ r0 : Nat, (r0 = m ∧ m ≤ mid) ∨ (r0 = mid ∧ mid < m) := by
      by_cases h : m ≤ mid
      · exact ⟨m, .inl ⟨rfl, h⟩⟩
      · exact ⟨mid, .inr ⟨rfl, by omega⟩⟩
    have q1 : a ≤ lo := by omega
    have q2 : lo ≤ r0 := by omega
    have q3 : r0 ≤ m := by omega
    have q4 : r0 ≤ mid := by omega
    have q5 : mid + m ≤ lo + b := by omega
    obtain ⟨p, hp⟩ : ∃ p, p + 1 = mid + m := ⟨mid + m - 1, by omega⟩
    go_enter Try.func47, Try.ntmps47
    show (bC 0).wp _ _ _ _
    refine pro _ _ a m b mid lo r0 p w _ zA zB (by omega) (by omega) (by omega) zM hp (by omega) ?_
    intro v25 v26 v27 v28 v77 v78 v79 v80 v129 v130 v131 v132 v133 v134 v135 v136 v137 v138 v139 v140 v141 v142 v143 v144 v145 v146 v147 v148
    show (Code.seq (fC (bC 7)) (bC 8)).wp _ _ _ _
    refine wp_seq (wp_mono (lp cf g cb eg blk c d0 dk w0 w N lo r0 p hcmp R hs S hN hN2 q2 (by omega) (fun h k e1 e2 e3 => ⟨by omega, by omega, rB_later (hLR h k (by omega) (by omega) (by omega) (by omega))⟩) (by omega)) ?_)
    rintro x a1 w1 ⟨rfl, s, hls, hsr, hS, ⟨hB1, hB2⟩, v23, v149, v150, v151, v152, v153, v154, v155, v156, v157, v158, v159, v160, v161, v162, v163, v164, v165, v166, v167, v168, v169, v170, v171, v172, v173, v174, rfl⟩
    obtain ⟨e, he⟩ : ∃ e, s + e = p + 1 := ⟨p + 1 - s, by omega⟩
    have hme : m ≤ e := by omega
    have heb : e ≤ b := by omega
    have hcut : ∀ d1, Rot s m e dk d1 → Cut (rF cf) Fin.val a s mid e b d1 := fun d1 hrot => by
      rw [hmid]
      refine cut_of hRSW h1 h2 hLR (by omega) (by rw [← hmid]; exact hlo) (by rw [← hmid]; exact hr0) (by omega) hls hsr hme heb (fun h => ?_) (fun h => ?_) hrot
      · have := hB1 h
        rwa [show p + 1 - s = e by omega] at this
      · have := hB2 h
        rwa [show p - s = e - 1 by omega] at this
    refine wp_mono (tail (X1 := fun w => ∃ d1, Rot s m e dk d1 ∧ SW encF w0 blk 0 d1 w) (X2 := fun w => ∃ d1 d2, Rot s m e dk d1 ∧ Mrg (rF cf) a mid d1 d2 ∧ SW encF w0 blk 0 d2 w) (Z := fun w => ∃ d', Mrg (rF cf) a b dk d' ∧ SW encF w0 blk 0 d' w)
      _ _ a m b mid s e ((p + 1 : Nat) : Int) w1 (by omega) (by omega) (by omega) (fun c1 c2 => ?_) (fun hno => ?_) (fun w hx => ?_) (fun w hx => ?_)) ?_
    · exact (fRot_any blk c (.func (.func g) #[] cb) d0 dk w0 w1 R hs hS s m e N hN c1 c2 (by omega) hN2).mono fun x w' h => h
    · rcases Nat.lt_or_ge s m with c1 | c1
      · obtain rfl : m = e := by omega
        exact ⟨dk, Rot.none_right dk (by omega), hS⟩
      · obtain rfl : s = m := by omega
        exact ⟨dk, Rot.none_left dk (by omega), hS⟩
    · obtain ⟨d1, hrot, hS1⟩ := hx
      have hcu := hcut d1 hrot
      have hz1 : d1.size = N := by rw [hrot.1.1]; exact hN
      have hd1 : d1.size = d0.size := by rw [hrot.1.1]; exact hs
      refine ⟨fun c1 c2 => (IH d1 w a s mid (by omega) hd1 hS1 hz1 c1 c2 (by omega) hcu.p1 hcu.p2 hcu.l1).mono fun x w' ⟨e1, d2, e2, e3⟩ => ⟨e1, d1, d2, hrot, e2, e3⟩, fun hno => ?_⟩
      exact ⟨d1, d1, hrot, hcu.left_none (by omega), hS1⟩
    · obtain ⟨d1, d2, hrot, hm2, hS2⟩ := hx
      have hcu := hcut d1 hrot
      have hz1 : d1.size = N := by rw [hrot.1.1]; exact hN
      have hz2 : d2.size = N := by rw [hm2.1.1]; exact hz1
      have hd2 : d2.size = d0.size := by rw [hz2, ← hN]; exact hs
      have hr3 : SortedIn (rF cf) mid e d2 := so_rest hcu.p3 fun k hk => hm2.1.2.1 k (.inr hk)
      have fin : ∀ d3, Mrg (rF cf) mid b d2 d3 → Mrg (rF cf) a b dk d3 := fun d3 h3 => hcu.done (by omega) (by omega) (by rw [hz1]; exact hb) (permIn_mono _ _ _ _ _ _ (by omega) heb (by rw [hN]; exact hb) hrot.1) hm2 h3
      refine ⟨fun c1 c2 => ?_, fun hno => ?_⟩
      · have hr4 : SortedIn (rF cf) e b d2 := so_rest hcu.p4 fun k hk => hm2.1.2.1 k (.inr (by omega))
        have hl2 : LR Fin.val mid e b d2 := fun i j i1 i2 j1 j2 => by
          rw [hm2.1.2.1 i (.inr i1), hm2.1.2.1 j (.inr (by omega))]
          exact hcu.l2 i j i1 i2 j1 j2
        exact (IH d2 w mid e b (by omega) hd2 hS2 hz2 c1 c2 hb hr3 hr4 hl2).mono fun x w' ⟨e1, d3, e2, e3⟩ => ⟨e1, d3, fin d3 e2, e3⟩
      · by_cases c1 : mid < e
        · have hr4 : SortedIn (rF cf) e b d2 := so_rest hcu.p4 fun k hk => hm2.1.2.1 k (.inr (by omega))
          exact ⟨d2, fin d2 (right_none hr3 hr4 (.inr (by omega))), hS2⟩
        · have hr4 : SortedIn (rF cf) mid b d2 := so_rest (so_sub hcu.p4 (by omega) (Nat.le_refl _)) fun k hk => hm2.1.2.1 k (.inr hk)
          exact ⟨d2, fin d2 ⟨permIn_refl _ _ _, hr4⟩, hS2⟩
    · rintro x a1 w4 ⟨rfl, hde, hz⟩
      refine bodyPost_end (results_none rfl _ _ _) hde ?_
      exact ⟨rfl, hz⟩
end Go.Proofs.Ytanihbflgolciaa
/- slices.SortStableFunc at ints by counted's closure, however many; counted, of any counts. -/
namespace Go.Proofs.Ytanihbflgolciaa
open Go.RowKit Go.Lib Go.Sort
set_option linter.unusedVariables false
set_option maxRecDepth 100000
theorem rF_total {cf : Fin 256 → Fin 256 → Int} {x y : Fin 256} (h1 : rF cf x y = false) (h2 : rF cf y x = false) : x = y := by
  rw [rB_false] at h1 h2
  apply Fin.ext
  obtain ⟨a1, b1⟩ := h1
  obtain ⟨a2, b2⟩ := h2
  rcases b1 with b1 | b1
  · rw [a2] at b1; cases b1
  · rcases b2 with b2 | b2
    · rw [a1] at b2; cases b2
    · omega
/-- A stable sort leaves what the insertion sort does. -/
theorem stable_eq {cf : Fin 256 → Fin 256 → Int} (hSW : SWO (ltOf cf)) {d d' : Array (Fin 256)} {N : Nat} (hN : d.size = N) (hasc : ∀ p q, p < q → q < N → (d[p]!).val < (d[q]!).val) (hp : PermIn 0 N d d') (hs : SortedIn (rF cf) 0 N d') : d' = insertionSort (ltOf cf) d 0 d.size := by
  subst hN
  have hi := ins_stable (lt := ltOf cf) hSW (idx := Fin.val) (a := 0) (b := d.size) (d := d) (Nat.zero_le _) (Nat.le_refl _) fun p q _ h1 h2 => hasc p q h1 h2
  have e1 := sorted_unique_holds (rB_swo hSW Fin.val) (fun x y h1 h2 => rF_total h1 h2) d d' hp hs
  have e2 := sorted_unique_holds (rB_swo hSW Fin.val) (fun x y h1 h2 => rF_total h1 h2) d _ hi.1 hi.2
  exact Array.ext' (e1.trans e2.symm)
theorem fStbN_any (T : List Int) (gA blk c : Nat) (d : Array (Fin 256)) (w : World) (hH : Holds encF w blk 0 d) (hblk : blk < w.heap.size) (hA : Blk w gA (ia T)) (hne : gA ≠ blk) (hT : T.length = 256) (hd : d.size ≤ 256) (hasc : ∀ p q, p < q → q < d.size → (d[p]!).val < (d[q]!).val) :
    Calls Try.prog 34 #[.slice (some ⟨blk, 0, none⟩) d.size c, .int .i64 (d.size : Nat), .func (.func 29) #[] (clB gA)] w fun e w' => e = .returned (.tuple #[]) ∧ SW encF w blk 0 (insertionSort (ltOf (cfT T)) d 0 d.size) w' := by
  have R : Row1 encF w blk 0 d := ⟨encF_one, hH, hblk⟩
  have hcmp := fCl_lays T gA blk d.size w hA hne hT
  refine (fStbG_any (cfT T) (cf_swo T) 29 (clB gA) eg_cl blk c d w hcmp R d.size rfl (by omega) hasc fun dk W a m b hk h1 h2 h3 h4 h5 h6 =>
    fSym_any (cfT T) (cf_swo T) 29 (clB gA) eg_cl blk c d w hcmp R d.size (by omega) (b - a) dk W a m b (Nat.le_refl _) hk.sz hk.sw hk.sz h1 h2 h3 h4 h5 h6).mono fun e w' h => ?_
  obtain ⟨he, d', hp, hs, hw⟩ := h
  rw [stable_eq (cf_swo T) rfl hasc hp hs] at hw
  exact ⟨he, hw⟩
theorem fSsfG_any (T : List Int) (gA blk c : Nat) (d : Array (Fin 256)) (w : World) (hH : Holds encF w blk 0 d) (hblk : blk < w.heap.size) (hA : Blk w gA (ia T)) (hne : gA ≠ blk) (hT : T.length = 256) (hd : d.size ≤ 256) (hasc : ∀ p q, p < q → q < d.size → (d[p]!).val < (d[q]!).val) :
    Calls Try.prog 28 #[.slice (some ⟨blk, 0, none⟩) d.size c, .func (.func 29) #[] (clB gA)] w fun e w' => e = .returned (.tuple #[]) ∧ SW encF w blk 0 (insertionSort (ltOf (cfT T)) d 0 d.size) w' := by
  have CI := Lib.hid (fStbN_any T gA blk c d w hH hblk hA hne hT hd hasc)
  obtain ⟨n, hn⟩ : ∃ n, n = d.size := ⟨_, rfl⟩
  obtain ⟨f, hf⟩ : ∃ f, f = Value.func (.func 29) #[] (clB gA) := ⟨_, rfl⟩
  rw [← hn, ← hf] at CI ⊢
  rw [← hn] at hd
  clear hn hf hH hA hasc
  go_enter Try.func28, Try.ntmps28
  go_wp2_with (first
    | ((with_reducible refine CI.out.mono ?_)
       rintro e w5 ⟨rfl, hS⟩
       have HS := Lib.hid hS
       clear hS))
  go_end0
  exact ⟨rfl, HS.out⟩
theorem posS_asc (T : List Int) (m : Nat) : (posS T m).Pairwise (· < ·) := List.Pairwise.filter _ List.pairwise_lt_range
theorem dS_asc (T : List Int) : ∀ p q, p < q → q < (dS T).size → ((dS T)[p]!).val < ((dS T)[q]!).val := by
  intro p q hpq hq
  have hv : ∀ i, i < (dS T).size → ∃ h : i < (posS T 256).length, ((dS T)[i]!).val = (posS T 256)[i] := fun i hi => by
    have hi2 : i < (posS T 256).length := by rw [dS_size] at hi; exact hi
    refine ⟨hi2, ?_⟩
    have h := dS_at T i hi2
    unfold encF posI at h
    injection h with _ h
    rw [List.getD_eq_getElem?_getD, List.getElem?_map, List.getElem?_eq_getElem hi2] at h
    simp only [Option.map_some, Option.getD_some] at h
    exact Int.ofNat.inj h
  obtain ⟨h1, e1⟩ := hv p (by omega)
  obtain ⟨h2, e2⟩ := hv q hq
  rw [e1, e2]
  exact List.pairwise_iff_getElem.1 (posS_asc T 256) p q h1 h2 hpq
set_option maxHeartbeats 4000000 in
theorem fCtd_any (w : World) (T : List Int) (hT : T.length = 256) (h1 : 1 ≤ (posS T 256).length) :
    Calls Try.prog 26 #[.agg (ia T)] w fun e w' => ∃ A c, e = .returned (.slice A (posS T 256).length c) ∧ Below w.heap.size w w' ∧ (∀ b o s, A = some ⟨b, o, s⟩ → w.heap.size ≤ b) ∧ Ri w' A ((srtS T).map fun (i : Nat) => (i : Int)) := by
  obtain ⟨X, hX⟩ : ∃ X, X = ia T := ⟨_, rfl⟩
  rw [← hX]
  have HSZ : Hid ((Try.prog.info? 55).map (·.size) = some X.size) := by show _ = _; rw [hX]; exact size256 T hT
  have HX := Lib.hid hX
  have HBe := Lib.hid ((Below.refl w.heap.size w).alloc (Nat.le_refl _) (.cells X 55))
  have HBlk := Lib.hid (Blk.new w X 55)
  have HTL := Lib.hid hT
  clear hX hT
  go_enter Try.func26, Try.ntmps26
  go_wp2_with (first
    | (with_reducible refine wpList_loadB _ rfl 55 (.tmp 1) rfl _ Try.underlying55 rfl w.heap.size rfl X HBlk.out HSZ.out ?_))
  have HB0 : Hid (w.heap.size + 1 ≤ (w.alloc (.cells X 55)).heap.size) := by show _ ≤ _; simp
  generalize w.alloc (.cells X 55) = w1 at *
  go_loopg [3, 7] 256 (fun gm v3 v7 wr => ∃ (j : Nat), v7 = .int .i64 j ∧ j ≤ 256 ∧ 256 - j ≤ gm ∧ Hid (Oi wr (w.heap.size + 1) v3 (posI T j)) ∧ Hid (Below w.heap.size w wr) ∧ Hid (Blk wr w.heap.size X) ∧ Hid (w.heap.size + 1 ≤ wr.heap.size))
  case atStart => exact ⟨0, rfl, Nat.zero_le _, by omega, Oi.nil _ _, HBe, HBlk, HB0⟩
  case round =>
    obtain ⟨j, rfl, hj, hgm, HO, HB, HK, HB1⟩ := hrel
    by_cases hlt : j < 256
    · have e1 : X[j]? = some (.int .i64 (T.getD j 0)) := by rw [HX.out]; exact ia_at (by rw [HTL.out]; exact hlt)
      obtain ⟨z, hz⟩ : ∃ z, z = T.getD j 0 := ⟨_, rfl⟩
      rw [← hz] at e1
      have HZ := Lib.hid hz
      have hlt' : (j : Int) < 256 := by omega
      by_cases hz0 : 0 < z
      · have HP : Hid (posI T (j + 1) = posI T j ++ [(j : Int)]) := by show _ = _; unfold posI; rw [posS_succ_yes (by rw [← hz]; exact hz0), List.map_append]; rfl
        have hlen : (posI T j).length ≤ 256 := by unfold posI; rw [List.length_map]; have := posS_le T j; omega
        clear hz
        have hOA : Oi (wr.alloc (.cells #[.int .i64 (j : Nat)] 3)) (w.heap.size + 1) u3 (posI T j) := HO.out.below ((Below.refl _ _).alloc (Nat.le_refl _) _)
        have HOA := Lib.hid hOA
        have HR1 := Lib.hid (Ri.one wr 3 (j : Nat))
        have hlt3 := HO.out.at
        have HL3 := Lib.hid hlt3
        clear hOA hlt3
        go_wp2_with (first
          | (with_reducible refine wpList_indexA _ rfl 55 (.tmp 6) (.tmp 7) rfl 256 3 .i64 Try.underlying55 Try.underlying3 (by kernel_rfl) X rfl j rfl hlt _ e1 ?_)
          | ((with_reducible refine wpList_appI _ rfl (.tmp 13) (.tmp 15) rfl (w.heap.size + 1) u3 (posI T j) rfl HOA.out (some ⟨wr.heap.size, 0, none⟩) 1 1 [(j : Int)] rfl rfl HR1.out (by rw [List.length_singleton]; omega) (by simp; have := HB1.out; omega) ?_)
             intro v1 w1 ho1 hg1 _
             have HO2 := Lib.hid ho1
             have hcg : Chg (fun k => u3.ownBlock = some k) wr w1 := (((Chg.refl _ wr).alloc _).grown hg1 (fun k e => .inl e))
             have HB2 := Lib.hid (HB.out.trans (hcg.below HB.out.size (fun k e => by have := HL3.out k e; omega)))
             have HK2 := Lib.hid (HK.out.chg hcg (fun e => by have := HL3.out _ e; omega))
             have HS2 : Hid (w.heap.size + 1 ≤ w1.heap.size) := Nat.le_trans HB1.out hcg.size
             clear ho1 hg1 hcg))
        go_roundg (gk - 1)
        case measure => omega
        case rel => exact ⟨j + 1, by push_cast; rfl, by omega, by omega, (show Hid _ from by show Oi _ _ _ _; rw [HP.out]; exact HO2.out), HB2, HK2, HS2⟩
      · have HP : Hid (posI T (j + 1) = posI T j) := by show _ = _; unfold posI; rw [posS_succ_no (by rw [← hz]; exact hz0)]
        clear hz
        go_wp2_with (first
          | (with_reducible refine wpList_indexA _ rfl 55 (.tmp 6) (.tmp 7) rfl 256 3 .i64 Try.underlying55 Try.underlying3 (by kernel_rfl) X rfl j rfl hlt _ e1 ?_))
        go_roundg (gk - 1)
        case measure => omega
        case rel => exact ⟨j + 1, by push_cast; rfl, by omega, by omega, (show Hid _ from by show Oi _ _ _ _; rw [HP.out]; exact HO.out), HB, HK, HB1⟩
    · have hje : j = 256 := by omega
      subst hje
      have hsz := (srt_perm T).1
      have hds := dS_size T
      have hpl : (posI T 256).length = (posS T 256).length := by unfold posI; rw [List.length_map]
      obtain ⟨g, c, hv, hbg, hgl, hfc, hcm, hcell, hfr⟩ := HO.out.form.resolve_left (fun e => by have := congrArg List.length e.2; rw [hpl] at this; simp at this; rw [this] at h1; simp at h1)
      subst hv
      have hH : Holds encF wr g 0 (dS T) := fun j hj => by
        rw [hds] at hj
        refine ⟨?_, hfr _⟩
        rw [Nat.zero_add, dS_at T j hj]
        exact hcell j (by rw [hpl]; exact hj)
      have CS := Lib.hid (fSsfG_any T w.heap.size g c (dS T) wr hH hgl (by have := HK.out; rw [HX.out] at this; exact this) (by omega) HTL.out (by rw [hds]; have := posS_le T 256; omega) (dS_asc T))
      rw [hpl]
      rw [← hds] at h1 ⊢
      have HH := Lib.hid hH
      have HSZ2 := Lib.hid hsz
      obtain ⟨n, hn⟩ : ∃ n, n = (dS T).size := ⟨_, rfl⟩
      have HN := Lib.hid hn
      obtain ⟨R, hR⟩ : ∃ R, R = insertionSort (ltOf (cfT T)) (dS T) 0 (dS T).size := ⟨_, rfl⟩
      have HRR := Lib.hid hR
      rw [← hR] at CS HSZ2
      rw [← hn] at CS HSZ2 h1 ⊢
      clear hfc hcm hcell hfr hH hsz hds hpl HO hn hR
      unfold clB at CS
      go_wp2_with (first
        | ((with_reducible refine CS.out.mono ?_)
           rintro e w5 ⟨rfl, hS⟩
           have HS := Lib.hid hS
           clear hS))
      go_ret
      refine ⟨some ⟨g, 0, none⟩, c, by rw [← dS_size, ← HN.out]; rfl, HB.out.trans ((SW.chg' HS.out).below HB.out.size (fun i e => by rw [e]; omega)), (fun b o s e => by cases e; omega), ?_⟩
      have hhd := HS.out.holds hgl HH.out (by rw [HSZ2.out, HN.out])
      refine .inr ⟨g, 0, rfl, fun i hi => ?_⟩
      unfold srtS at hi ⊢
      rw [← HRR.out] at hi ⊢
      rw [List.length_map, List.length_map, Array.length_toList] at hi
      have := (hhd i hi).1
      rw [this, getElem!_pos R i hi]
      unfold encF
      rw [List.getD_eq_getElem?_getD, List.getElem?_map, List.getElem?_map, Array.getElem?_toList, Array.getElem?_eq_getElem hi]
      rfl
end Go.Proofs.Ytanihbflgolciaa
