/- Texts of this proof, one behind the other. -/
import Derived.Test.YtlgpambbghkffaaRows
import Derived.Deep.Slices
import Derived.Deep.Fields
import Derived.ChangeSame
import Derived.SizedLaws
import Derived.OpenShut
import Derived.Test.YtlgpambbghkffaaE06
section
/- Single regions of the law KitEnd. Written by gen_kreg.py. -/
namespace Go.Proofs.Ytlgpambbghkffaa
namespace Kt
open Go.ChangeShapes Go.WideShapes Go.ChangeAt Go.RowKit Go.Maps Go.Shelf
set_option linter.unusedVariables false
set_option linter.constructorNameAsVariable false

def regionOf (n : Nat) : Code → Option Code
  | .region id ops d => if id = n then some (.region id ops d) else none
  | .loop c => regionOf n c
  | .seq a b => match regionOf n a with
    | some c => some c
    | none => regionOf n b
  | .block _ c => regionOf n c
  | .scope c => regionOf n c
  | .cond _ a b => match regionOf n a with
    | some c => some c
    | none => regionOf n b
  | _ => none
noncomputable def endR17 : Code := ((Try.f4.body.bind (regionOf 17)).getD .skip)
noncomputable def endR26 : Code := ((Try.f4.body.bind (regionOf 26)).getD .skip)
noncomputable def endR36 : Code := ((Try.f4.body.bind (regionOf 36)).getD .skip)

set_option maxRecDepth 100000 in
set_option maxHeartbeats 4000000 in
theorem r17_a0 {Q : Exit → Act → World → Prop} {W : World} {c : Code} (hc : c = endR17) {u0 u1 u2 u3 u4 u5 u6 u7 u9 u17 u18 u19 u20 u21 u22 u23 u24 u25 u26 u27 u28 u29 u30 u31 u32 u33 u34 u35 u36 u37 u38 u39 u40 u41 u42 u43 u44 u45 u46 u47 u48 u49 u50 u51 u52 u53 u54 u55 u56 u57 u58 u59 u60 u61 u62 u63 u64 u65 u66 u67 u68 u69 u70 u71 u72 u73 u74 u75 u76 u77 u78 u79 u80 u81 u82 u83 u84 u85 u86 u87 u88 u89 u90 u91 u92 u93 u94 u95 u96 u97 u98 u99 u100 u101 u102 u103 u104 u105 u106 u107 u108 u109 u110 u111 u112 u113 u114 u115 u116 u117 u118 u119 u120 u121 u122 u123 u124 u125 u126 u127 u128 u129 u130 u131 u132 u133 u134 u135 u136 u137 u138 u139 u140 u141 u142 u143 u144 u145 u146 u147 u148 u149 u150 u151 u152 u153 u154 u155 u156 u157 u158 u159 u160 u161 u162 u163 u164 u165 u166 u167 u168 u169 u170 u171 u172 u173 u174 u175 u176 u177 u178 u179 u180 u181 u182 u183 u184 u185 u186 u187 u188 u189 u190 u191 u192 u193 u194 u195 u196 u197 u198 u199 u200 u201 u202 u203 u204 u205 u206 u207 u208 u209 u210 u211 u212 u213 u214 u215 u216 u217 u218 u219 u220 u221 u222 u223 u224 u225 u226 u227 u228 u229 u230 u231 u232 u233 u234 u235 u236 u237 u238 u239 u240 u241 u242 u243 u244 u245 u246 u247 u248 u249 u250 u251 u252 u253 u254 u255 u256 u257 u258 u259 u260 u261 u262 u263 u264 u265 u266 u267 u268 u269 u270 u271 : Value} {a8 : Addr} {n8 k8 m10 k10 n12 k12 j b14 : Nat} {a10 : Addr} {A12 : Option Addr} {fv tv ly q1 : Int} {tb : Bool} {s s0 : List UInt8}
    (hn8 : n8 ≤ 1048576)
    (hjn : j < n8)
    (y0 : W.cell? ⟨b14, 0, none⟩ = some (strV s))
    (y1 : W.cell? ⟨b14, 1, none⟩ = some (.int .i64 ly))
    (o0 : W.cell? (a8.add (j * 2)) = some (strV s))
    (o1 : W.cell? ⟨(a8.add (j * 2)).block, (a8.add (j * 2)).off + 1, none⟩ = some (.int .i64 q1))
    (hd1 : decide (ly = 0) = false)
    (hd1' : (ly == 0) = false)
    (hd2 : decide (q1 < 1) = false)
    (HAM : ∀ n, Calls Try.prog 18 #[.string ⟨s.toArray⟩, .slice A12 n12 k12] (W.drewN n) fun e w' => e = .returned (.bool true) ∧ w' = W.drewN n)
    (hd3 : decide ((0 : Int) < (j : Int)) = false)
    (hd4 : decide (0 < j) = false)
    (hf1 : (fv == 0) = true)
    (hf2 : decide (fv = 0) = true)
    (hm1 : ((m10 : Int) != (n8 : Int)) = false)
    (hm2 : decide ((m10 : Int) = (n8 : Int)) = true)
    (hm3 : ((m10 : Int) == (n8 : Int)) = true)
    (hm4 : decide (m10 = n8) = true)
    (hjm : j < m10)
    (htbn : (!tb) = false)
    (z0 : W.cell? (a10.add (j * 2)) = some (strV s))
    (z1 : W.cell? ⟨(a10.add (j * 2)).block, (a10.add (j * 2)).off + 1, none⟩ = some (.int .i64 tv))
    (hQ : ∀ (n : Nat) (c99 c100 c101 c102 c103 c104 c105 c106 c107 c108 c109 c110 c111 c112 c113 c114 c115 c116 c117 c118 c119 c120 c121 c122 c123 c124 c125 c126 c127 c128 c129 c130 c131 c132 c133 c134 c135 c136 c137 c138 c139 c140 c141 c142 c143 c144 c145 c146 c147 c148 c149 c150 c151 c152 c153 c154 c155 c156 c157 c158 c159 : Value), Q .normal ⟨List.toArray (u0 :: u1 :: u2 :: u3 :: u4 :: u5 :: u6 :: u7 :: .slice (some a8) n8 k8 :: u9 :: .slice (some a10) m10 k10 :: .int .i64 fv :: .slice A12 n12 k12 :: .int .i64 (j : Nat) :: .pointer (some ⟨b14, 0, none⟩) :: .int .i64 tv :: .bool tb :: u17 :: u18 :: u19 :: u20 :: u21 :: u22 :: u23 :: u24 :: u25 :: u26 :: u27 :: u28 :: u29 :: u30 :: u31 :: u32 :: u33 :: u34 :: u35 :: u36 :: u37 :: u38 :: u39 :: u40 :: u41 :: u42 :: u43 :: u44 :: u45 :: u46 :: u47 :: u48 :: u49 :: u50 :: u51 :: u52 :: u53 :: u54 :: u55 :: u56 :: u57 :: u58 :: u59 :: u60 :: u61 :: u62 :: u63 :: u64 :: u65 :: u66 :: u67 :: u68 :: u69 :: u70 :: u71 :: u72 :: u73 :: u74 :: u75 :: u76 :: u77 :: u78 :: u79 :: u80 :: u81 :: u82 :: u83 :: u84 :: u85 :: u86 :: u87 :: u88 :: u89 :: u90 :: u91 :: u92 :: u93 :: u94 :: u95 :: u96 :: u97 :: u98 :: c99 :: c100 :: c101 :: c102 :: c103 :: c104 :: c105 :: c106 :: c107 :: c108 :: c109 :: c110 :: c111 :: c112 :: c113 :: c114 :: c115 :: c116 :: c117 :: c118 :: c119 :: c120 :: c121 :: c122 :: c123 :: c124 :: c125 :: c126 :: c127 :: c128 :: c129 :: c130 :: c131 :: c132 :: c133 :: c134 :: c135 :: c136 :: c137 :: c138 :: c139 :: c140 :: c141 :: c142 :: c143 :: c144 :: c145 :: c146 :: c147 :: c148 :: c149 :: c150 :: c151 :: c152 :: c153 :: c154 :: c155 :: c156 :: c157 :: c158 :: c159 :: .bool false :: u161 :: u162 :: u163 :: u164 :: u165 :: u166 :: u167 :: u168 :: u169 :: u170 :: u171 :: u172 :: u173 :: u174 :: u175 :: u176 :: u177 :: u178 :: u179 :: u180 :: u181 :: u182 :: u183 :: u184 :: u185 :: u186 :: u187 :: u188 :: u189 :: u190 :: u191 :: u192 :: u193 :: u194 :: u195 :: u196 :: u197 :: u198 :: u199 :: u200 :: u201 :: u202 :: u203 :: u204 :: u205 :: u206 :: u207 :: u208 :: u209 :: u210 :: u211 :: u212 :: u213 :: u214 :: u215 :: u216 :: u217 :: u218 :: u219 :: u220 :: u221 :: u222 :: u223 :: u224 :: u225 :: u226 :: u227 :: u228 :: u229 :: u230 :: u231 :: u232 :: u233 :: u234 :: u235 :: u236 :: u237 :: u238 :: u239 :: u240 :: u241 :: u242 :: u243 :: u244 :: u245 :: u246 :: u247 :: u248 :: u249 :: u250 :: u251 :: u252 :: u253 :: u254 :: u255 :: u256 :: u257 :: u258 :: u259 :: u260 :: u261 :: u262 :: u263 :: u264 :: u265 :: u266 :: u267 :: u268 :: u269 :: u270 :: u271 :: []), []⟩ (W.drewN n)) :
    Code.wp Try.prog c Q ⟨List.toArray (u0 :: u1 :: u2 :: u3 :: u4 :: u5 :: u6 :: u7 :: .slice (some a8) n8 k8 :: u9 :: .slice (some a10) m10 k10 :: .int .i64 fv :: .slice A12 n12 k12 :: .int .i64 (j : Nat) :: .pointer (some ⟨b14, 0, none⟩) :: .int .i64 tv :: .bool tb :: u17 :: u18 :: u19 :: u20 :: u21 :: u22 :: u23 :: u24 :: u25 :: u26 :: u27 :: u28 :: u29 :: u30 :: u31 :: u32 :: u33 :: u34 :: u35 :: u36 :: u37 :: u38 :: u39 :: u40 :: u41 :: u42 :: u43 :: u44 :: u45 :: u46 :: u47 :: u48 :: u49 :: u50 :: u51 :: u52 :: u53 :: u54 :: u55 :: u56 :: u57 :: u58 :: u59 :: u60 :: u61 :: u62 :: u63 :: u64 :: u65 :: u66 :: u67 :: u68 :: u69 :: u70 :: u71 :: u72 :: u73 :: u74 :: u75 :: u76 :: u77 :: u78 :: u79 :: u80 :: u81 :: u82 :: u83 :: u84 :: u85 :: u86 :: u87 :: u88 :: u89 :: u90 :: u91 :: u92 :: u93 :: u94 :: u95 :: u96 :: u97 :: u98 :: u99 :: u100 :: u101 :: u102 :: u103 :: u104 :: u105 :: u106 :: u107 :: u108 :: u109 :: u110 :: u111 :: u112 :: u113 :: u114 :: u115 :: u116 :: u117 :: u118 :: u119 :: u120 :: u121 :: u122 :: u123 :: u124 :: u125 :: u126 :: u127 :: u128 :: u129 :: u130 :: u131 :: u132 :: u133 :: u134 :: u135 :: u136 :: u137 :: u138 :: u139 :: u140 :: u141 :: u142 :: u143 :: u144 :: u145 :: u146 :: u147 :: u148 :: u149 :: u150 :: u151 :: u152 :: u153 :: u154 :: u155 :: u156 :: u157 :: u158 :: u159 :: u160 :: u161 :: u162 :: u163 :: u164 :: u165 :: u166 :: u167 :: u168 :: u169 :: u170 :: u171 :: u172 :: u173 :: u174 :: u175 :: u176 :: u177 :: u178 :: u179 :: u180 :: u181 :: u182 :: u183 :: u184 :: u185 :: u186 :: u187 :: u188 :: u189 :: u190 :: u191 :: u192 :: u193 :: u194 :: u195 :: u196 :: u197 :: u198 :: u199 :: u200 :: u201 :: u202 :: u203 :: u204 :: u205 :: u206 :: u207 :: u208 :: u209 :: u210 :: u211 :: u212 :: u213 :: u214 :: u215 :: u216 :: u217 :: u218 :: u219 :: u220 :: u221 :: u222 :: u223 :: u224 :: u225 :: u226 :: u227 :: u228 :: u229 :: u230 :: u231 :: u232 :: u233 :: u234 :: u235 :: u236 :: u237 :: u238 :: u239 :: u240 :: u241 :: u242 :: u243 :: u244 :: u245 :: u246 :: u247 :: u248 :: u249 :: u250 :: u251 :: u252 :: u253 :: u254 :: u255 :: u256 :: u257 :: u258 :: u259 :: u260 :: u261 :: u262 :: u263 :: u264 :: u265 :: u266 :: u267 :: u268 :: u269 :: u270 :: u271 :: []), []⟩ W := by
  subst hc
  conv => arg 2; whnf
  have HAM := Lib.hid HAM
  have HQ := Lib.hid hQ
  clear hQ
  go_big_quiet ((go_at_call 18; exact Calls.quiet_of_same (HAM.out _)))
  exact HQ.out _ _ _ _ _ _ _ _ _ _ _ _ _ _ _ _ _ _ _ _ _ _ _ _ _ _ _ _ _ _ _ _ _ _ _ _ _ _ _ _ _ _ _ _ _ _ _ _ _ _ _ _ _ _ _ _ _ _ _ _ _ _

set_option maxRecDepth 100000 in
set_option maxHeartbeats 4000000 in
theorem r17_a3 {Q : Exit → Act → World → Prop} {W : World} {c : Code} (hc : c = endR17) {u0 u1 u2 u3 u4 u5 u6 u7 u9 u17 u18 u19 u20 u21 u22 u23 u24 u25 u26 u27 u28 u29 u30 u31 u32 u33 u34 u35 u36 u37 u38 u39 u40 u41 u42 u43 u44 u45 u46 u47 u48 u49 u50 u51 u52 u53 u54 u55 u56 u57 u58 u59 u60 u61 u62 u63 u64 u65 u66 u67 u68 u69 u70 u71 u72 u73 u74 u75 u76 u77 u78 u79 u80 u81 u82 u83 u84 u85 u86 u87 u88 u89 u90 u91 u92 u93 u94 u95 u96 u97 u98 u99 u100 u101 u102 u103 u104 u105 u106 u107 u108 u109 u110 u111 u112 u113 u114 u115 u116 u117 u118 u119 u120 u121 u122 u123 u124 u125 u126 u127 u128 u129 u130 u131 u132 u133 u134 u135 u136 u137 u138 u139 u140 u141 u142 u143 u144 u145 u146 u147 u148 u149 u150 u151 u152 u153 u154 u155 u156 u157 u158 u159 u160 u161 u162 u163 u164 u165 u166 u167 u168 u169 u170 u171 u172 u173 u174 u175 u176 u177 u178 u179 u180 u181 u182 u183 u184 u185 u186 u187 u188 u189 u190 u191 u192 u193 u194 u195 u196 u197 u198 u199 u200 u201 u202 u203 u204 u205 u206 u207 u208 u209 u210 u211 u212 u213 u214 u215 u216 u217 u218 u219 u220 u221 u222 u223 u224 u225 u226 u227 u228 u229 u230 u231 u232 u233 u234 u235 u236 u237 u238 u239 u240 u241 u242 u243 u244 u245 u246 u247 u248 u249 u250 u251 u252 u253 u254 u255 u256 u257 u258 u259 u260 u261 u262 u263 u264 u265 u266 u267 u268 u269 u270 u271 : Value} {a8 : Addr} {n8 k8 m10 k10 n12 k12 j b14 : Nat} {A10 : Option Addr} {A12 : Option Addr} {fv tv ly q1 : Int} {tb : Bool} {s s0 : List UInt8}
    (hn8 : n8 ≤ 1048576)
    (hjn : j < n8)
    (y0 : W.cell? ⟨b14, 0, none⟩ = some (strV s))
    (y1 : W.cell? ⟨b14, 1, none⟩ = some (.int .i64 ly))
    (o0 : W.cell? (a8.add (j * 2)) = some (strV s))
    (o1 : W.cell? ⟨(a8.add (j * 2)).block, (a8.add (j * 2)).off + 1, none⟩ = some (.int .i64 q1))
    (hd1 : decide (ly = 0) = false)
    (hd1' : (ly == 0) = false)
    (hd2 : decide (q1 < 1) = false)
    (HAM : ∀ n, Calls Try.prog 18 #[.string ⟨s.toArray⟩, .slice A12 n12 k12] (W.drewN n) fun e w' => e = .returned (.bool true) ∧ w' = W.drewN n)
    (hd3 : decide ((0 : Int) < (j : Int)) = false)
    (hd4 : decide (0 < j) = false)
    (hf1 : (fv == 0) = false)
    (hf2 : decide (fv = 0) = false)
    (hQ : ∀ (n : Nat) (c99 c100 c101 c102 c103 c104 c105 c106 c107 c108 c109 c110 c111 c112 c113 c114 c115 c116 c117 c118 c119 c120 c121 c122 c123 c124 c125 c126 c127 c128 c129 c130 c131 c132 c133 c134 c135 c136 c137 c138 c139 c140 c141 c142 c143 c144 c145 c146 c147 c148 c149 c150 c151 c152 c153 c154 c155 c156 c157 c158 c159 : Value), Q .normal ⟨List.toArray (u0 :: u1 :: u2 :: u3 :: u4 :: u5 :: u6 :: u7 :: .slice (some a8) n8 k8 :: u9 :: .slice A10 m10 k10 :: .int .i64 fv :: .slice A12 n12 k12 :: .int .i64 (j : Nat) :: .pointer (some ⟨b14, 0, none⟩) :: .int .i64 tv :: .bool tb :: u17 :: u18 :: u19 :: u20 :: u21 :: u22 :: u23 :: u24 :: u25 :: u26 :: u27 :: u28 :: u29 :: u30 :: u31 :: u32 :: u33 :: u34 :: u35 :: u36 :: u37 :: u38 :: u39 :: u40 :: u41 :: u42 :: u43 :: u44 :: u45 :: u46 :: u47 :: u48 :: u49 :: u50 :: u51 :: u52 :: u53 :: u54 :: u55 :: u56 :: u57 :: u58 :: u59 :: u60 :: u61 :: u62 :: u63 :: u64 :: u65 :: u66 :: u67 :: u68 :: u69 :: u70 :: u71 :: u72 :: u73 :: u74 :: u75 :: u76 :: u77 :: u78 :: u79 :: u80 :: u81 :: u82 :: u83 :: u84 :: u85 :: u86 :: u87 :: u88 :: u89 :: u90 :: u91 :: u92 :: u93 :: u94 :: u95 :: u96 :: u97 :: u98 :: c99 :: c100 :: c101 :: c102 :: c103 :: c104 :: c105 :: c106 :: c107 :: c108 :: c109 :: c110 :: c111 :: c112 :: c113 :: c114 :: c115 :: c116 :: c117 :: c118 :: c119 :: c120 :: c121 :: c122 :: c123 :: c124 :: c125 :: c126 :: c127 :: c128 :: c129 :: c130 :: c131 :: c132 :: c133 :: c134 :: c135 :: c136 :: c137 :: c138 :: c139 :: c140 :: c141 :: c142 :: c143 :: c144 :: c145 :: c146 :: c147 :: c148 :: c149 :: c150 :: c151 :: c152 :: c153 :: c154 :: c155 :: c156 :: c157 :: c158 :: c159 :: .bool false :: u161 :: u162 :: u163 :: u164 :: u165 :: u166 :: u167 :: u168 :: u169 :: u170 :: u171 :: u172 :: u173 :: u174 :: u175 :: u176 :: u177 :: u178 :: u179 :: u180 :: u181 :: u182 :: u183 :: u184 :: u185 :: u186 :: u187 :: u188 :: u189 :: u190 :: u191 :: u192 :: u193 :: u194 :: u195 :: u196 :: u197 :: u198 :: u199 :: u200 :: u201 :: u202 :: u203 :: u204 :: u205 :: u206 :: u207 :: u208 :: u209 :: u210 :: u211 :: u212 :: u213 :: u214 :: u215 :: u216 :: u217 :: u218 :: u219 :: u220 :: u221 :: u222 :: u223 :: u224 :: u225 :: u226 :: u227 :: u228 :: u229 :: u230 :: u231 :: u232 :: u233 :: u234 :: u235 :: u236 :: u237 :: u238 :: u239 :: u240 :: u241 :: u242 :: u243 :: u244 :: u245 :: u246 :: u247 :: u248 :: u249 :: u250 :: u251 :: u252 :: u253 :: u254 :: u255 :: u256 :: u257 :: u258 :: u259 :: u260 :: u261 :: u262 :: u263 :: u264 :: u265 :: u266 :: u267 :: u268 :: u269 :: u270 :: u271 :: []), []⟩ (W.drewN n)) :
    Code.wp Try.prog c Q ⟨List.toArray (u0 :: u1 :: u2 :: u3 :: u4 :: u5 :: u6 :: u7 :: .slice (some a8) n8 k8 :: u9 :: .slice A10 m10 k10 :: .int .i64 fv :: .slice A12 n12 k12 :: .int .i64 (j : Nat) :: .pointer (some ⟨b14, 0, none⟩) :: .int .i64 tv :: .bool tb :: u17 :: u18 :: u19 :: u20 :: u21 :: u22 :: u23 :: u24 :: u25 :: u26 :: u27 :: u28 :: u29 :: u30 :: u31 :: u32 :: u33 :: u34 :: u35 :: u36 :: u37 :: u38 :: u39 :: u40 :: u41 :: u42 :: u43 :: u44 :: u45 :: u46 :: u47 :: u48 :: u49 :: u50 :: u51 :: u52 :: u53 :: u54 :: u55 :: u56 :: u57 :: u58 :: u59 :: u60 :: u61 :: u62 :: u63 :: u64 :: u65 :: u66 :: u67 :: u68 :: u69 :: u70 :: u71 :: u72 :: u73 :: u74 :: u75 :: u76 :: u77 :: u78 :: u79 :: u80 :: u81 :: u82 :: u83 :: u84 :: u85 :: u86 :: u87 :: u88 :: u89 :: u90 :: u91 :: u92 :: u93 :: u94 :: u95 :: u96 :: u97 :: u98 :: u99 :: u100 :: u101 :: u102 :: u103 :: u104 :: u105 :: u106 :: u107 :: u108 :: u109 :: u110 :: u111 :: u112 :: u113 :: u114 :: u115 :: u116 :: u117 :: u118 :: u119 :: u120 :: u121 :: u122 :: u123 :: u124 :: u125 :: u126 :: u127 :: u128 :: u129 :: u130 :: u131 :: u132 :: u133 :: u134 :: u135 :: u136 :: u137 :: u138 :: u139 :: u140 :: u141 :: u142 :: u143 :: u144 :: u145 :: u146 :: u147 :: u148 :: u149 :: u150 :: u151 :: u152 :: u153 :: u154 :: u155 :: u156 :: u157 :: u158 :: u159 :: u160 :: u161 :: u162 :: u163 :: u164 :: u165 :: u166 :: u167 :: u168 :: u169 :: u170 :: u171 :: u172 :: u173 :: u174 :: u175 :: u176 :: u177 :: u178 :: u179 :: u180 :: u181 :: u182 :: u183 :: u184 :: u185 :: u186 :: u187 :: u188 :: u189 :: u190 :: u191 :: u192 :: u193 :: u194 :: u195 :: u196 :: u197 :: u198 :: u199 :: u200 :: u201 :: u202 :: u203 :: u204 :: u205 :: u206 :: u207 :: u208 :: u209 :: u210 :: u211 :: u212 :: u213 :: u214 :: u215 :: u216 :: u217 :: u218 :: u219 :: u220 :: u221 :: u222 :: u223 :: u224 :: u225 :: u226 :: u227 :: u228 :: u229 :: u230 :: u231 :: u232 :: u233 :: u234 :: u235 :: u236 :: u237 :: u238 :: u239 :: u240 :: u241 :: u242 :: u243 :: u244 :: u245 :: u246 :: u247 :: u248 :: u249 :: u250 :: u251 :: u252 :: u253 :: u254 :: u255 :: u256 :: u257 :: u258 :: u259 :: u260 :: u261 :: u262 :: u263 :: u264 :: u265 :: u266 :: u267 :: u268 :: u269 :: u270 :: u271 :: []), []⟩ W := by
  subst hc
  conv => arg 2; whnf
  have HAM := Lib.hid HAM
  have HQ := Lib.hid hQ
  clear hQ
  go_big_quiet ((go_at_call 18; exact Calls.quiet_of_same (HAM.out _)))
  exact HQ.out _ _ _ _ _ _ _ _ _ _ _ _ _ _ _ _ _ _ _ _ _ _ _ _ _ _ _ _ _ _ _ _ _ _ _ _ _ _ _ _ _ _ _ _ _ _ _ _ _ _ _ _ _ _ _ _ _ _ _ _ _ _

set_option maxRecDepth 100000 in
set_option maxHeartbeats 4000000 in
theorem r17_b0 {Q : Exit → Act → World → Prop} {W : World} {c : Code} (hc : c = endR17) {u0 u1 u2 u3 u4 u5 u6 u7 u9 u17 u18 u19 u20 u21 u22 u23 u24 u25 u26 u27 u28 u29 u30 u31 u32 u33 u34 u35 u36 u37 u38 u39 u40 u41 u42 u43 u44 u45 u46 u47 u48 u49 u50 u51 u52 u53 u54 u55 u56 u57 u58 u59 u60 u61 u62 u63 u64 u65 u66 u67 u68 u69 u70 u71 u72 u73 u74 u75 u76 u77 u78 u79 u80 u81 u82 u83 u84 u85 u86 u87 u88 u89 u90 u91 u92 u93 u94 u95 u96 u97 u98 u99 u100 u101 u102 u103 u104 u105 u106 u107 u108 u109 u110 u111 u112 u113 u114 u115 u116 u117 u118 u119 u120 u121 u122 u123 u124 u125 u126 u127 u128 u129 u130 u131 u132 u133 u134 u135 u136 u137 u138 u139 u140 u141 u142 u143 u144 u145 u146 u147 u148 u149 u150 u151 u152 u153 u154 u155 u156 u157 u158 u159 u160 u161 u162 u163 u164 u165 u166 u167 u168 u169 u170 u171 u172 u173 u174 u175 u176 u177 u178 u179 u180 u181 u182 u183 u184 u185 u186 u187 u188 u189 u190 u191 u192 u193 u194 u195 u196 u197 u198 u199 u200 u201 u202 u203 u204 u205 u206 u207 u208 u209 u210 u211 u212 u213 u214 u215 u216 u217 u218 u219 u220 u221 u222 u223 u224 u225 u226 u227 u228 u229 u230 u231 u232 u233 u234 u235 u236 u237 u238 u239 u240 u241 u242 u243 u244 u245 u246 u247 u248 u249 u250 u251 u252 u253 u254 u255 u256 u257 u258 u259 u260 u261 u262 u263 u264 u265 u266 u267 u268 u269 u270 u271 : Value} {a8 : Addr} {n8 k8 m10 k10 n12 k12 j b14 : Nat} {a10 : Addr} {A12 : Option Addr} {fv tv ly q1 : Int} {tb : Bool} {s s0 : List UInt8}
    (hn8 : n8 ≤ 1048576)
    (hjn : j < n8)
    (y0 : W.cell? ⟨b14, 0, none⟩ = some (strV s))
    (y1 : W.cell? ⟨b14, 1, none⟩ = some (.int .i64 ly))
    (o0 : W.cell? (a8.add (j * 2)) = some (strV s))
    (o1 : W.cell? ⟨(a8.add (j * 2)).block, (a8.add (j * 2)).off + 1, none⟩ = some (.int .i64 q1))
    (hd1 : decide (ly = 0) = false)
    (hd1' : (ly == 0) = false)
    (hd2 : decide (q1 < 1) = false)
    (HAM : ∀ n, Calls Try.prog 18 #[.string ⟨s.toArray⟩, .slice A12 n12 k12] (W.drewN n) fun e w' => e = .returned (.bool true) ∧ w' = W.drewN n)
    (hd3 : decide ((0 : Int) < (j : Int)) = true)
    (hd4 : decide (0 < j) = true)
    (hj1 : 0 < j)
    (r0 : W.cell? (a8.add ((j - 1) * 2)) = some (strV s0))
    (hge : Op.bytesLess s0 s = true)
    (hf1 : (fv == 0) = true)
    (hf2 : decide (fv = 0) = true)
    (hm1 : ((m10 : Int) != (n8 : Int)) = false)
    (hm2 : decide ((m10 : Int) = (n8 : Int)) = true)
    (hm3 : ((m10 : Int) == (n8 : Int)) = true)
    (hm4 : decide (m10 = n8) = true)
    (hjm : j < m10)
    (htbn : (!tb) = false)
    (z0 : W.cell? (a10.add (j * 2)) = some (strV s))
    (z1 : W.cell? ⟨(a10.add (j * 2)).block, (a10.add (j * 2)).off + 1, none⟩ = some (.int .i64 tv))
    (hQ : ∀ (n : Nat) (c99 c100 c101 c102 c103 c104 c105 c106 c107 c108 c109 c110 c111 c112 c113 c114 c115 c116 c117 c118 c119 c120 c121 c122 c123 c124 c125 c126 c127 c128 c129 c130 c131 c132 c133 c134 c135 c136 c137 c138 c139 c140 c141 c142 c143 c144 c145 c146 c147 c148 c149 c150 c151 c152 c153 c154 c155 c156 c157 c158 c159 : Value), Q .normal ⟨List.toArray (u0 :: u1 :: u2 :: u3 :: u4 :: u5 :: u6 :: u7 :: .slice (some a8) n8 k8 :: u9 :: .slice (some a10) m10 k10 :: .int .i64 fv :: .slice A12 n12 k12 :: .int .i64 (j : Nat) :: .pointer (some ⟨b14, 0, none⟩) :: .int .i64 tv :: .bool tb :: u17 :: u18 :: u19 :: u20 :: u21 :: u22 :: u23 :: u24 :: u25 :: u26 :: u27 :: u28 :: u29 :: u30 :: u31 :: u32 :: u33 :: u34 :: u35 :: u36 :: u37 :: u38 :: u39 :: u40 :: u41 :: u42 :: u43 :: u44 :: u45 :: u46 :: u47 :: u48 :: u49 :: u50 :: u51 :: u52 :: u53 :: u54 :: u55 :: u56 :: u57 :: u58 :: u59 :: u60 :: u61 :: u62 :: u63 :: u64 :: u65 :: u66 :: u67 :: u68 :: u69 :: u70 :: u71 :: u72 :: u73 :: u74 :: u75 :: u76 :: u77 :: u78 :: u79 :: u80 :: u81 :: u82 :: u83 :: u84 :: u85 :: u86 :: u87 :: u88 :: u89 :: u90 :: u91 :: u92 :: u93 :: u94 :: u95 :: u96 :: u97 :: u98 :: c99 :: c100 :: c101 :: c102 :: c103 :: c104 :: c105 :: c106 :: c107 :: c108 :: c109 :: c110 :: c111 :: c112 :: c113 :: c114 :: c115 :: c116 :: c117 :: c118 :: c119 :: c120 :: c121 :: c122 :: c123 :: c124 :: c125 :: c126 :: c127 :: c128 :: c129 :: c130 :: c131 :: c132 :: c133 :: c134 :: c135 :: c136 :: c137 :: c138 :: c139 :: c140 :: c141 :: c142 :: c143 :: c144 :: c145 :: c146 :: c147 :: c148 :: c149 :: c150 :: c151 :: c152 :: c153 :: c154 :: c155 :: c156 :: c157 :: c158 :: c159 :: .bool false :: u161 :: u162 :: u163 :: u164 :: u165 :: u166 :: u167 :: u168 :: u169 :: u170 :: u171 :: u172 :: u173 :: u174 :: u175 :: u176 :: u177 :: u178 :: u179 :: u180 :: u181 :: u182 :: u183 :: u184 :: u185 :: u186 :: u187 :: u188 :: u189 :: u190 :: u191 :: u192 :: u193 :: u194 :: u195 :: u196 :: u197 :: u198 :: u199 :: u200 :: u201 :: u202 :: u203 :: u204 :: u205 :: u206 :: u207 :: u208 :: u209 :: u210 :: u211 :: u212 :: u213 :: u214 :: u215 :: u216 :: u217 :: u218 :: u219 :: u220 :: u221 :: u222 :: u223 :: u224 :: u225 :: u226 :: u227 :: u228 :: u229 :: u230 :: u231 :: u232 :: u233 :: u234 :: u235 :: u236 :: u237 :: u238 :: u239 :: u240 :: u241 :: u242 :: u243 :: u244 :: u245 :: u246 :: u247 :: u248 :: u249 :: u250 :: u251 :: u252 :: u253 :: u254 :: u255 :: u256 :: u257 :: u258 :: u259 :: u260 :: u261 :: u262 :: u263 :: u264 :: u265 :: u266 :: u267 :: u268 :: u269 :: u270 :: u271 :: []), []⟩ (W.drewN n)) :
    Code.wp Try.prog c Q ⟨List.toArray (u0 :: u1 :: u2 :: u3 :: u4 :: u5 :: u6 :: u7 :: .slice (some a8) n8 k8 :: u9 :: .slice (some a10) m10 k10 :: .int .i64 fv :: .slice A12 n12 k12 :: .int .i64 (j : Nat) :: .pointer (some ⟨b14, 0, none⟩) :: .int .i64 tv :: .bool tb :: u17 :: u18 :: u19 :: u20 :: u21 :: u22 :: u23 :: u24 :: u25 :: u26 :: u27 :: u28 :: u29 :: u30 :: u31 :: u32 :: u33 :: u34 :: u35 :: u36 :: u37 :: u38 :: u39 :: u40 :: u41 :: u42 :: u43 :: u44 :: u45 :: u46 :: u47 :: u48 :: u49 :: u50 :: u51 :: u52 :: u53 :: u54 :: u55 :: u56 :: u57 :: u58 :: u59 :: u60 :: u61 :: u62 :: u63 :: u64 :: u65 :: u66 :: u67 :: u68 :: u69 :: u70 :: u71 :: u72 :: u73 :: u74 :: u75 :: u76 :: u77 :: u78 :: u79 :: u80 :: u81 :: u82 :: u83 :: u84 :: u85 :: u86 :: u87 :: u88 :: u89 :: u90 :: u91 :: u92 :: u93 :: u94 :: u95 :: u96 :: u97 :: u98 :: u99 :: u100 :: u101 :: u102 :: u103 :: u104 :: u105 :: u106 :: u107 :: u108 :: u109 :: u110 :: u111 :: u112 :: u113 :: u114 :: u115 :: u116 :: u117 :: u118 :: u119 :: u120 :: u121 :: u122 :: u123 :: u124 :: u125 :: u126 :: u127 :: u128 :: u129 :: u130 :: u131 :: u132 :: u133 :: u134 :: u135 :: u136 :: u137 :: u138 :: u139 :: u140 :: u141 :: u142 :: u143 :: u144 :: u145 :: u146 :: u147 :: u148 :: u149 :: u150 :: u151 :: u152 :: u153 :: u154 :: u155 :: u156 :: u157 :: u158 :: u159 :: u160 :: u161 :: u162 :: u163 :: u164 :: u165 :: u166 :: u167 :: u168 :: u169 :: u170 :: u171 :: u172 :: u173 :: u174 :: u175 :: u176 :: u177 :: u178 :: u179 :: u180 :: u181 :: u182 :: u183 :: u184 :: u185 :: u186 :: u187 :: u188 :: u189 :: u190 :: u191 :: u192 :: u193 :: u194 :: u195 :: u196 :: u197 :: u198 :: u199 :: u200 :: u201 :: u202 :: u203 :: u204 :: u205 :: u206 :: u207 :: u208 :: u209 :: u210 :: u211 :: u212 :: u213 :: u214 :: u215 :: u216 :: u217 :: u218 :: u219 :: u220 :: u221 :: u222 :: u223 :: u224 :: u225 :: u226 :: u227 :: u228 :: u229 :: u230 :: u231 :: u232 :: u233 :: u234 :: u235 :: u236 :: u237 :: u238 :: u239 :: u240 :: u241 :: u242 :: u243 :: u244 :: u245 :: u246 :: u247 :: u248 :: u249 :: u250 :: u251 :: u252 :: u253 :: u254 :: u255 :: u256 :: u257 :: u258 :: u259 :: u260 :: u261 :: u262 :: u263 :: u264 :: u265 :: u266 :: u267 :: u268 :: u269 :: u270 :: u271 :: []), []⟩ W := by
  subst hc
  conv => arg 2; whnf
  have HAM := Lib.hid HAM
  have HQ := Lib.hid hQ
  clear hQ
  go_big_quiet ((go_at_call 18; exact Calls.quiet_of_same (HAM.out _)))
  exact HQ.out _ _ _ _ _ _ _ _ _ _ _ _ _ _ _ _ _ _ _ _ _ _ _ _ _ _ _ _ _ _ _ _ _ _ _ _ _ _ _ _ _ _ _ _ _ _ _ _ _ _ _ _ _ _ _ _ _ _ _ _ _ _

set_option maxRecDepth 100000 in
set_option maxHeartbeats 4000000 in
theorem r17_b3 {Q : Exit → Act → World → Prop} {W : World} {c : Code} (hc : c = endR17) {u0 u1 u2 u3 u4 u5 u6 u7 u9 u17 u18 u19 u20 u21 u22 u23 u24 u25 u26 u27 u28 u29 u30 u31 u32 u33 u34 u35 u36 u37 u38 u39 u40 u41 u42 u43 u44 u45 u46 u47 u48 u49 u50 u51 u52 u53 u54 u55 u56 u57 u58 u59 u60 u61 u62 u63 u64 u65 u66 u67 u68 u69 u70 u71 u72 u73 u74 u75 u76 u77 u78 u79 u80 u81 u82 u83 u84 u85 u86 u87 u88 u89 u90 u91 u92 u93 u94 u95 u96 u97 u98 u99 u100 u101 u102 u103 u104 u105 u106 u107 u108 u109 u110 u111 u112 u113 u114 u115 u116 u117 u118 u119 u120 u121 u122 u123 u124 u125 u126 u127 u128 u129 u130 u131 u132 u133 u134 u135 u136 u137 u138 u139 u140 u141 u142 u143 u144 u145 u146 u147 u148 u149 u150 u151 u152 u153 u154 u155 u156 u157 u158 u159 u160 u161 u162 u163 u164 u165 u166 u167 u168 u169 u170 u171 u172 u173 u174 u175 u176 u177 u178 u179 u180 u181 u182 u183 u184 u185 u186 u187 u188 u189 u190 u191 u192 u193 u194 u195 u196 u197 u198 u199 u200 u201 u202 u203 u204 u205 u206 u207 u208 u209 u210 u211 u212 u213 u214 u215 u216 u217 u218 u219 u220 u221 u222 u223 u224 u225 u226 u227 u228 u229 u230 u231 u232 u233 u234 u235 u236 u237 u238 u239 u240 u241 u242 u243 u244 u245 u246 u247 u248 u249 u250 u251 u252 u253 u254 u255 u256 u257 u258 u259 u260 u261 u262 u263 u264 u265 u266 u267 u268 u269 u270 u271 : Value} {a8 : Addr} {n8 k8 m10 k10 n12 k12 j b14 : Nat} {A10 : Option Addr} {A12 : Option Addr} {fv tv ly q1 : Int} {tb : Bool} {s s0 : List UInt8}
    (hn8 : n8 ≤ 1048576)
    (hjn : j < n8)
    (y0 : W.cell? ⟨b14, 0, none⟩ = some (strV s))
    (y1 : W.cell? ⟨b14, 1, none⟩ = some (.int .i64 ly))
    (o0 : W.cell? (a8.add (j * 2)) = some (strV s))
    (o1 : W.cell? ⟨(a8.add (j * 2)).block, (a8.add (j * 2)).off + 1, none⟩ = some (.int .i64 q1))
    (hd1 : decide (ly = 0) = false)
    (hd1' : (ly == 0) = false)
    (hd2 : decide (q1 < 1) = false)
    (HAM : ∀ n, Calls Try.prog 18 #[.string ⟨s.toArray⟩, .slice A12 n12 k12] (W.drewN n) fun e w' => e = .returned (.bool true) ∧ w' = W.drewN n)
    (hd3 : decide ((0 : Int) < (j : Int)) = true)
    (hd4 : decide (0 < j) = true)
    (hj1 : 0 < j)
    (r0 : W.cell? (a8.add ((j - 1) * 2)) = some (strV s0))
    (hge : Op.bytesLess s0 s = true)
    (hf1 : (fv == 0) = false)
    (hf2 : decide (fv = 0) = false)
    (hQ : ∀ (n : Nat) (c99 c100 c101 c102 c103 c104 c105 c106 c107 c108 c109 c110 c111 c112 c113 c114 c115 c116 c117 c118 c119 c120 c121 c122 c123 c124 c125 c126 c127 c128 c129 c130 c131 c132 c133 c134 c135 c136 c137 c138 c139 c140 c141 c142 c143 c144 c145 c146 c147 c148 c149 c150 c151 c152 c153 c154 c155 c156 c157 c158 c159 : Value), Q .normal ⟨List.toArray (u0 :: u1 :: u2 :: u3 :: u4 :: u5 :: u6 :: u7 :: .slice (some a8) n8 k8 :: u9 :: .slice A10 m10 k10 :: .int .i64 fv :: .slice A12 n12 k12 :: .int .i64 (j : Nat) :: .pointer (some ⟨b14, 0, none⟩) :: .int .i64 tv :: .bool tb :: u17 :: u18 :: u19 :: u20 :: u21 :: u22 :: u23 :: u24 :: u25 :: u26 :: u27 :: u28 :: u29 :: u30 :: u31 :: u32 :: u33 :: u34 :: u35 :: u36 :: u37 :: u38 :: u39 :: u40 :: u41 :: u42 :: u43 :: u44 :: u45 :: u46 :: u47 :: u48 :: u49 :: u50 :: u51 :: u52 :: u53 :: u54 :: u55 :: u56 :: u57 :: u58 :: u59 :: u60 :: u61 :: u62 :: u63 :: u64 :: u65 :: u66 :: u67 :: u68 :: u69 :: u70 :: u71 :: u72 :: u73 :: u74 :: u75 :: u76 :: u77 :: u78 :: u79 :: u80 :: u81 :: u82 :: u83 :: u84 :: u85 :: u86 :: u87 :: u88 :: u89 :: u90 :: u91 :: u92 :: u93 :: u94 :: u95 :: u96 :: u97 :: u98 :: c99 :: c100 :: c101 :: c102 :: c103 :: c104 :: c105 :: c106 :: c107 :: c108 :: c109 :: c110 :: c111 :: c112 :: c113 :: c114 :: c115 :: c116 :: c117 :: c118 :: c119 :: c120 :: c121 :: c122 :: c123 :: c124 :: c125 :: c126 :: c127 :: c128 :: c129 :: c130 :: c131 :: c132 :: c133 :: c134 :: c135 :: c136 :: c137 :: c138 :: c139 :: c140 :: c141 :: c142 :: c143 :: c144 :: c145 :: c146 :: c147 :: c148 :: c149 :: c150 :: c151 :: c152 :: c153 :: c154 :: c155 :: c156 :: c157 :: c158 :: c159 :: .bool false :: u161 :: u162 :: u163 :: u164 :: u165 :: u166 :: u167 :: u168 :: u169 :: u170 :: u171 :: u172 :: u173 :: u174 :: u175 :: u176 :: u177 :: u178 :: u179 :: u180 :: u181 :: u182 :: u183 :: u184 :: u185 :: u186 :: u187 :: u188 :: u189 :: u190 :: u191 :: u192 :: u193 :: u194 :: u195 :: u196 :: u197 :: u198 :: u199 :: u200 :: u201 :: u202 :: u203 :: u204 :: u205 :: u206 :: u207 :: u208 :: u209 :: u210 :: u211 :: u212 :: u213 :: u214 :: u215 :: u216 :: u217 :: u218 :: u219 :: u220 :: u221 :: u222 :: u223 :: u224 :: u225 :: u226 :: u227 :: u228 :: u229 :: u230 :: u231 :: u232 :: u233 :: u234 :: u235 :: u236 :: u237 :: u238 :: u239 :: u240 :: u241 :: u242 :: u243 :: u244 :: u245 :: u246 :: u247 :: u248 :: u249 :: u250 :: u251 :: u252 :: u253 :: u254 :: u255 :: u256 :: u257 :: u258 :: u259 :: u260 :: u261 :: u262 :: u263 :: u264 :: u265 :: u266 :: u267 :: u268 :: u269 :: u270 :: u271 :: []), []⟩ (W.drewN n)) :
    Code.wp Try.prog c Q ⟨List.toArray (u0 :: u1 :: u2 :: u3 :: u4 :: u5 :: u6 :: u7 :: .slice (some a8) n8 k8 :: u9 :: .slice A10 m10 k10 :: .int .i64 fv :: .slice A12 n12 k12 :: .int .i64 (j : Nat) :: .pointer (some ⟨b14, 0, none⟩) :: .int .i64 tv :: .bool tb :: u17 :: u18 :: u19 :: u20 :: u21 :: u22 :: u23 :: u24 :: u25 :: u26 :: u27 :: u28 :: u29 :: u30 :: u31 :: u32 :: u33 :: u34 :: u35 :: u36 :: u37 :: u38 :: u39 :: u40 :: u41 :: u42 :: u43 :: u44 :: u45 :: u46 :: u47 :: u48 :: u49 :: u50 :: u51 :: u52 :: u53 :: u54 :: u55 :: u56 :: u57 :: u58 :: u59 :: u60 :: u61 :: u62 :: u63 :: u64 :: u65 :: u66 :: u67 :: u68 :: u69 :: u70 :: u71 :: u72 :: u73 :: u74 :: u75 :: u76 :: u77 :: u78 :: u79 :: u80 :: u81 :: u82 :: u83 :: u84 :: u85 :: u86 :: u87 :: u88 :: u89 :: u90 :: u91 :: u92 :: u93 :: u94 :: u95 :: u96 :: u97 :: u98 :: u99 :: u100 :: u101 :: u102 :: u103 :: u104 :: u105 :: u106 :: u107 :: u108 :: u109 :: u110 :: u111 :: u112 :: u113 :: u114 :: u115 :: u116 :: u117 :: u118 :: u119 :: u120 :: u121 :: u122 :: u123 :: u124 :: u125 :: u126 :: u127 :: u128 :: u129 :: u130 :: u131 :: u132 :: u133 :: u134 :: u135 :: u136 :: u137 :: u138 :: u139 :: u140 :: u141 :: u142 :: u143 :: u144 :: u145 :: u146 :: u147 :: u148 :: u149 :: u150 :: u151 :: u152 :: u153 :: u154 :: u155 :: u156 :: u157 :: u158 :: u159 :: u160 :: u161 :: u162 :: u163 :: u164 :: u165 :: u166 :: u167 :: u168 :: u169 :: u170 :: u171 :: u172 :: u173 :: u174 :: u175 :: u176 :: u177 :: u178 :: u179 :: u180 :: u181 :: u182 :: u183 :: u184 :: u185 :: u186 :: u187 :: u188 :: u189 :: u190 :: u191 :: u192 :: u193 :: u194 :: u195 :: u196 :: u197 :: u198 :: u199 :: u200 :: u201 :: u202 :: u203 :: u204 :: u205 :: u206 :: u207 :: u208 :: u209 :: u210 :: u211 :: u212 :: u213 :: u214 :: u215 :: u216 :: u217 :: u218 :: u219 :: u220 :: u221 :: u222 :: u223 :: u224 :: u225 :: u226 :: u227 :: u228 :: u229 :: u230 :: u231 :: u232 :: u233 :: u234 :: u235 :: u236 :: u237 :: u238 :: u239 :: u240 :: u241 :: u242 :: u243 :: u244 :: u245 :: u246 :: u247 :: u248 :: u249 :: u250 :: u251 :: u252 :: u253 :: u254 :: u255 :: u256 :: u257 :: u258 :: u259 :: u260 :: u261 :: u262 :: u263 :: u264 :: u265 :: u266 :: u267 :: u268 :: u269 :: u270 :: u271 :: []), []⟩ W := by
  subst hc
  conv => arg 2; whnf
  have HAM := Lib.hid HAM
  have HQ := Lib.hid hQ
  clear hQ
  go_big_quiet ((go_at_call 18; exact Calls.quiet_of_same (HAM.out _)))
  exact HQ.out _ _ _ _ _ _ _ _ _ _ _ _ _ _ _ _ _ _ _ _ _ _ _ _ _ _ _ _ _ _ _ _ _ _ _ _ _ _ _ _ _ _ _ _ _ _ _ _ _ _ _ _ _ _ _ _ _ _ _ _ _ _

set_option maxRecDepth 100000 in
set_option maxHeartbeats 4000000 in
theorem r26 {Q : Exit → Act → World → Prop} {W : World} {c : Code} (hc : c = endR26) {u1 u2 u3 u4 u5 u6 u8 u9 u10 u11 u12 u13 u14 u15 u16 u17 u19 u21 u22 u23 u24 u25 u26 u27 u28 u29 u30 u31 u32 u33 u34 u35 u36 u37 u38 u39 u40 u41 u42 u43 u44 u45 u46 u47 u48 u49 u50 u51 u52 u53 u54 u55 u56 u57 u58 u59 u60 u61 u62 u63 u64 u65 u66 u67 u68 u69 u70 u71 u72 u73 u74 u75 u76 u77 u78 u79 u80 u81 u82 u83 u84 u85 u86 u87 u88 u89 u90 u91 u92 u93 u94 u95 u96 u97 u98 u99 u100 u101 u102 u103 u104 u105 u106 u107 u108 u109 u110 u111 u112 u113 u114 u115 u116 u117 u118 u119 u120 u121 u122 u123 u124 u125 u126 u127 u128 u129 u130 u131 u132 u133 u134 u135 u136 u137 u138 u139 u140 u141 u142 u143 u144 u145 u146 u147 u148 u149 u150 u151 u152 u153 u154 u155 u156 u157 u158 u159 u160 u161 u162 u163 u164 u165 u166 u167 u168 u169 u170 u171 u172 u173 u174 u175 u176 u177 u178 u179 u180 u181 u182 u183 u184 u185 u186 u187 u188 u189 u190 u191 u192 u193 u194 u195 u196 u197 u198 u199 u200 u201 u202 u203 u204 u205 u206 u207 u208 u209 u210 u211 u212 u213 u214 u215 u216 u217 u218 u219 u220 u221 u222 u223 u224 u225 u226 u227 u228 u229 u230 u231 u232 u233 u234 u235 u236 u237 u238 u239 u240 u241 u242 u243 u244 u245 u246 u247 u248 u249 u250 u251 u252 u253 u254 u255 u256 u257 u258 u259 u260 u261 u262 u263 u264 u265 u266 u267 u268 u269 u270 u271 : Value} {ad ap : Addr} {nl c0 pl cp b7 j dx dp : Nat} {code s : List UInt8}
    (hbxc : b7 < W.heap.size)
    (hapc : ap.block < W.heap.size)
    (hjp : j < pl)
    (f0 : W.cell? ⟨b7, 0, none⟩ = some (strV code))
    (f2 : W.cell? ⟨b7, 2, none⟩ = some (.slice (some ap) pl cp))
    (y0 : W.cell? (ap.add (j * 2)) = some (strV s))
    (hdd1 : decide ((dx : Int) ≤ (dp : Int)) = false)
    (hdd2 : decide (dx ≤ dp) = false)
    (KDx : ∀ W', Go.RowKit.Below W.heap.size W W' → Calls Try.prog 19 #[.slice (some ad) nl c0, .string ⟨code.toArray⟩] W' fun e w' => e = .returned (.int .i64 (dx : Nat)) ∧ Go.RowKit.Below W'.heap.size W' w')
    (KDp : ∀ W', Go.RowKit.Below W.heap.size W W' → Calls Try.prog 19 #[.slice (some ad) nl c0, .string ⟨s.toArray⟩] W' fun e w' => e = .returned (.int .i64 (dp : Nat)) ∧ Go.RowKit.Below W'.heap.size W' w')
    (hQ : ∀ (W' : World) (c191 c192 c193 c194 c195 c196 c197 c198 c199 c200 c201 c202 c203 c204 c205 c206 : Value), Go.RowKit.Below W.heap.size W W' → Q .normal ⟨List.toArray (.slice (some ad) nl c0 :: u1 :: u2 :: u3 :: u4 :: u5 :: u6 :: .pointer (some ⟨b7, 0, none⟩) :: u8 :: u9 :: u10 :: u11 :: u12 :: u13 :: u14 :: u15 :: u16 :: u17 :: .int .i64 (j : Nat) :: u19 :: .int .i64 0 :: u21 :: u22 :: u23 :: u24 :: u25 :: u26 :: u27 :: u28 :: u29 :: u30 :: u31 :: u32 :: u33 :: u34 :: u35 :: u36 :: u37 :: u38 :: u39 :: u40 :: u41 :: u42 :: u43 :: u44 :: u45 :: u46 :: u47 :: u48 :: u49 :: u50 :: u51 :: u52 :: u53 :: u54 :: u55 :: u56 :: u57 :: u58 :: u59 :: u60 :: u61 :: u62 :: u63 :: u64 :: u65 :: u66 :: u67 :: u68 :: u69 :: u70 :: u71 :: u72 :: u73 :: u74 :: u75 :: u76 :: u77 :: u78 :: u79 :: u80 :: u81 :: u82 :: u83 :: u84 :: u85 :: u86 :: u87 :: u88 :: u89 :: u90 :: u91 :: u92 :: u93 :: u94 :: u95 :: u96 :: u97 :: u98 :: u99 :: u100 :: u101 :: u102 :: u103 :: u104 :: u105 :: u106 :: u107 :: u108 :: u109 :: u110 :: u111 :: u112 :: u113 :: u114 :: u115 :: u116 :: u117 :: u118 :: u119 :: u120 :: u121 :: u122 :: u123 :: u124 :: u125 :: u126 :: u127 :: u128 :: u129 :: u130 :: u131 :: u132 :: u133 :: u134 :: u135 :: u136 :: u137 :: u138 :: u139 :: u140 :: u141 :: u142 :: u143 :: u144 :: u145 :: u146 :: u147 :: u148 :: u149 :: u150 :: u151 :: u152 :: u153 :: u154 :: u155 :: u156 :: u157 :: u158 :: u159 :: u160 :: u161 :: u162 :: u163 :: u164 :: u165 :: u166 :: u167 :: u168 :: u169 :: u170 :: u171 :: u172 :: u173 :: u174 :: u175 :: u176 :: u177 :: u178 :: u179 :: u180 :: u181 :: u182 :: u183 :: u184 :: u185 :: u186 :: u187 :: u188 :: u189 :: u190 :: c191 :: c192 :: c193 :: c194 :: c195 :: c196 :: c197 :: c198 :: c199 :: c200 :: c201 :: c202 :: c203 :: c204 :: c205 :: c206 :: .bool false :: u208 :: u209 :: u210 :: u211 :: u212 :: u213 :: u214 :: u215 :: u216 :: u217 :: u218 :: u219 :: u220 :: u221 :: u222 :: u223 :: u224 :: u225 :: u226 :: u227 :: u228 :: u229 :: u230 :: u231 :: u232 :: u233 :: u234 :: u235 :: u236 :: u237 :: u238 :: u239 :: u240 :: u241 :: u242 :: u243 :: u244 :: u245 :: u246 :: u247 :: u248 :: u249 :: u250 :: u251 :: u252 :: u253 :: u254 :: u255 :: u256 :: u257 :: u258 :: u259 :: u260 :: u261 :: u262 :: u263 :: u264 :: u265 :: u266 :: u267 :: u268 :: u269 :: u270 :: u271 :: []), []⟩ W') :
    Code.wp Try.prog c Q ⟨List.toArray (.slice (some ad) nl c0 :: u1 :: u2 :: u3 :: u4 :: u5 :: u6 :: .pointer (some ⟨b7, 0, none⟩) :: u8 :: u9 :: u10 :: u11 :: u12 :: u13 :: u14 :: u15 :: u16 :: u17 :: .int .i64 (j : Nat) :: u19 :: .int .i64 0 :: u21 :: u22 :: u23 :: u24 :: u25 :: u26 :: u27 :: u28 :: u29 :: u30 :: u31 :: u32 :: u33 :: u34 :: u35 :: u36 :: u37 :: u38 :: u39 :: u40 :: u41 :: u42 :: u43 :: u44 :: u45 :: u46 :: u47 :: u48 :: u49 :: u50 :: u51 :: u52 :: u53 :: u54 :: u55 :: u56 :: u57 :: u58 :: u59 :: u60 :: u61 :: u62 :: u63 :: u64 :: u65 :: u66 :: u67 :: u68 :: u69 :: u70 :: u71 :: u72 :: u73 :: u74 :: u75 :: u76 :: u77 :: u78 :: u79 :: u80 :: u81 :: u82 :: u83 :: u84 :: u85 :: u86 :: u87 :: u88 :: u89 :: u90 :: u91 :: u92 :: u93 :: u94 :: u95 :: u96 :: u97 :: u98 :: u99 :: u100 :: u101 :: u102 :: u103 :: u104 :: u105 :: u106 :: u107 :: u108 :: u109 :: u110 :: u111 :: u112 :: u113 :: u114 :: u115 :: u116 :: u117 :: u118 :: u119 :: u120 :: u121 :: u122 :: u123 :: u124 :: u125 :: u126 :: u127 :: u128 :: u129 :: u130 :: u131 :: u132 :: u133 :: u134 :: u135 :: u136 :: u137 :: u138 :: u139 :: u140 :: u141 :: u142 :: u143 :: u144 :: u145 :: u146 :: u147 :: u148 :: u149 :: u150 :: u151 :: u152 :: u153 :: u154 :: u155 :: u156 :: u157 :: u158 :: u159 :: u160 :: u161 :: u162 :: u163 :: u164 :: u165 :: u166 :: u167 :: u168 :: u169 :: u170 :: u171 :: u172 :: u173 :: u174 :: u175 :: u176 :: u177 :: u178 :: u179 :: u180 :: u181 :: u182 :: u183 :: u184 :: u185 :: u186 :: u187 :: u188 :: u189 :: u190 :: u191 :: u192 :: u193 :: u194 :: u195 :: u196 :: u197 :: u198 :: u199 :: u200 :: u201 :: u202 :: u203 :: u204 :: u205 :: u206 :: u207 :: u208 :: u209 :: u210 :: u211 :: u212 :: u213 :: u214 :: u215 :: u216 :: u217 :: u218 :: u219 :: u220 :: u221 :: u222 :: u223 :: u224 :: u225 :: u226 :: u227 :: u228 :: u229 :: u230 :: u231 :: u232 :: u233 :: u234 :: u235 :: u236 :: u237 :: u238 :: u239 :: u240 :: u241 :: u242 :: u243 :: u244 :: u245 :: u246 :: u247 :: u248 :: u249 :: u250 :: u251 :: u252 :: u253 :: u254 :: u255 :: u256 :: u257 :: u258 :: u259 :: u260 :: u261 :: u262 :: u263 :: u264 :: u265 :: u266 :: u267 :: u268 :: u269 :: u270 :: u271 :: []), []⟩ W := by
  subst hc
  conv => arg 2; whnf
  have HKX := Lib.hid KDx
  have HKP := Lib.hid KDp
  have HQ := Lib.hid hQ
  have HWC := Lib.hid (Below.refl W.heap.size W)
  clear hQ KDx KDp
  go_region_held3 (fun w' => w'.cell? ⟨b7, 0, none⟩ = some (strV code) ∧ w'.cell? ⟨b7, 2, none⟩ = some (.slice (some ap) pl cp) ∧ w'.cell? (ap.add (j * 2)) = some (strV s)) (go_keep)
    (first
      | (go_at_call 19; ((with_reducible refine (HKX.out _ (by first | exact hbq | exact HWC.out.drew)).mono ?_); rintro e w8 ⟨rfl, hb8⟩; have hk1 := (hb8.cell (p := ⟨b7, 0, none⟩) (by first | exact hbx8 | exact hbxc)).trans (by first | exact hk1 | exact f0); have hk2 := (hb8.cell (p := ⟨b7, 2, none⟩) (by first | exact hbx8 | exact hbxc)).trans (by first | exact hk2 | exact f2); have hk3 := (hb8.cell (p := ap.add (j * 2)) (by rw [addr_block]; first | exact hap8 | exact hapc)).trans (by first | exact hk3 | exact y0); have hap8 := Nat.lt_of_lt_of_le (by first | exact hap8 | exact hapc) hb8.size; have hbx8 := Nat.lt_of_lt_of_le (by first | exact hbx8 | exact hbxc) hb8.size; have hbq := Below.trans (by first | exact hbq | exact HWC.out.drew) (hb8.mono (by first | exact hbq.size | exact HWC.out.drew.size))))
      | (go_at_call 19; ((with_reducible refine (HKP.out _ (by first | exact hbq | exact HWC.out.drew)).mono ?_); rintro e w8 ⟨rfl, hb8⟩; have hk1 := (hb8.cell (p := ⟨b7, 0, none⟩) (by first | exact hbx8 | exact hbxc)).trans (by first | exact hk1 | exact f0); have hk2 := (hb8.cell (p := ⟨b7, 2, none⟩) (by first | exact hbx8 | exact hbxc)).trans (by first | exact hk2 | exact f2); have hk3 := (hb8.cell (p := ap.add (j * 2)) (by rw [addr_block]; first | exact hap8 | exact hapc)).trans (by first | exact hk3 | exact y0); have hap8 := Nat.lt_of_lt_of_le (by first | exact hap8 | exact hapc) hb8.size; have hbx8 := Nat.lt_of_lt_of_le (by first | exact hbx8 | exact hbxc) hb8.size; have hbq := Below.trans (by first | exact hbq | exact HWC.out.drew) (hb8.mono (by first | exact hbq.size | exact HWC.out.drew.size)))))
  all_goals (first | exact HQ.out _ _ _ _ _ _ _ _ _ _ _ _ _ _ _ _ _ hbq | (go_wp2; exact HQ.out _ _ _ _ _ _ _ _ _ _ _ _ _ _ _ _ _ hbq))

set_option maxRecDepth 100000 in
set_option maxHeartbeats 4000000 in
theorem r36 {Q : Exit → Act → World → Prop} {W : World} {c : Code} (hc : c = endR36) {u1 u2 u3 u4 u5 u6 u9 u10 u11 u13 u14 u15 u16 u17 u18 u19 u20 u21 u22 u23 u24 u25 u26 u27 u28 u29 u30 u31 u32 u33 u34 u35 u36 u37 u38 u39 u40 u41 u42 u43 u44 u45 u46 u47 u48 u49 u50 u51 u52 u53 u54 u55 u56 u57 u58 u59 u60 u61 u62 u63 u64 u65 u66 u67 u68 u69 u70 u71 u72 u73 u74 u75 u76 u77 u78 u79 u80 u81 u82 u83 u84 u85 u86 u87 u88 u89 u90 u91 u92 u93 u94 u95 u96 u97 u98 u99 u100 u101 u102 u103 u104 u105 u106 u107 u108 u109 u110 u111 u112 u113 u114 u115 u116 u117 u118 u119 u120 u121 u122 u123 u124 u125 u126 u127 u128 u129 u130 u131 u132 u133 u134 u135 u136 u137 u138 u139 u140 u141 u142 u143 u144 u145 u146 u147 u148 u149 u150 u151 u152 u153 u154 u155 u156 u157 u158 u159 u160 u161 u162 u163 u164 u165 u166 u167 u168 u169 u170 u171 u172 u173 u174 u175 u176 u177 u178 u179 u180 u181 u182 u183 u184 u185 u186 u187 u188 u189 u190 u191 u192 u193 u194 u195 u196 u197 u198 u199 u200 u201 u202 u203 u204 u205 u206 u207 u208 u209 u210 u211 u212 u213 u214 u215 u216 u217 u218 u219 u220 u221 u222 u223 u224 u225 u226 u227 u228 u229 u230 u231 u232 u233 u234 u235 u236 u237 u238 u239 u240 u241 u242 u243 u244 u245 u246 u247 u248 u249 u250 u251 u252 u253 u254 u255 u256 u257 u258 u259 u260 u261 u262 u263 u264 u265 u266 u267 u268 u269 u270 u271 : Value} {ad ad8 : Addr} {nl c0 n8 k8 ns k12 b7 : Nat} {A12 : Option Addr} {code : List UInt8}
    (hbx : b7 < W.heap.size)
    (hab8 : ad8.block < W.heap.size)
    (hg1 : ((n8 : Int) == 1) = true)
    (hg2 : decide (n8 = 1) = true)
    (hg3 : 0 < n8)
    (hs1 : ((ns : Int) == 1) = true)
    (hs2 : decide (ns = 1) = true)
    (e0 : W.cell? ⟨b7, 0, none⟩ = some (strV code))
    (o0 : W.cell? ad8 = some (strV code))
    (o1 : W.cell? ⟨ad8.block, ad8.off + 1, none⟩ = some (.int .i64 1))
    (KD : ∀ W', Go.RowKit.Below W.heap.size W W' → Calls Try.prog 19 #[.slice (some ad) nl c0, .string ⟨code.toArray⟩] W' fun e w' => e = .returned (.int .i64 1) ∧ Go.RowKit.Below W'.heap.size W' w')
    (hQ : ∀ (W' : World) (c237 c238 c239 c240 c241 c242 c243 c244 c245 c246 c247 c248 c249 c250 c251 c252 c253 c254 c255 c256 c257 c258 c259 c260 : Value), Go.RowKit.Below W.heap.size W W' → Q .normal ⟨List.toArray (.slice (some ad) nl c0 :: u1 :: u2 :: u3 :: u4 :: u5 :: .bool true :: .pointer (some ⟨b7, 0, none⟩) :: .slice (some ad8) n8 k8 :: u9 :: u10 :: u11 :: .slice A12 ns k12 :: u13 :: u14 :: u15 :: u16 :: u17 :: u18 :: u19 :: u20 :: u21 :: u22 :: u23 :: u24 :: u25 :: u26 :: u27 :: u28 :: u29 :: u30 :: u31 :: u32 :: u33 :: u34 :: u35 :: u36 :: u37 :: u38 :: u39 :: u40 :: u41 :: u42 :: u43 :: u44 :: u45 :: u46 :: u47 :: u48 :: u49 :: u50 :: u51 :: u52 :: u53 :: u54 :: u55 :: u56 :: u57 :: u58 :: u59 :: u60 :: u61 :: u62 :: u63 :: u64 :: u65 :: u66 :: u67 :: u68 :: u69 :: u70 :: u71 :: u72 :: u73 :: u74 :: u75 :: u76 :: u77 :: u78 :: u79 :: u80 :: u81 :: u82 :: u83 :: u84 :: u85 :: u86 :: u87 :: u88 :: u89 :: u90 :: u91 :: u92 :: u93 :: u94 :: u95 :: u96 :: u97 :: u98 :: u99 :: u100 :: u101 :: u102 :: u103 :: u104 :: u105 :: u106 :: u107 :: u108 :: u109 :: u110 :: u111 :: u112 :: u113 :: u114 :: u115 :: u116 :: u117 :: u118 :: u119 :: u120 :: u121 :: u122 :: u123 :: u124 :: u125 :: u126 :: u127 :: u128 :: u129 :: u130 :: u131 :: u132 :: u133 :: u134 :: u135 :: u136 :: u137 :: u138 :: u139 :: u140 :: u141 :: u142 :: u143 :: u144 :: u145 :: u146 :: u147 :: u148 :: u149 :: u150 :: u151 :: u152 :: u153 :: u154 :: u155 :: u156 :: u157 :: u158 :: u159 :: u160 :: u161 :: u162 :: u163 :: u164 :: u165 :: u166 :: u167 :: u168 :: u169 :: u170 :: u171 :: u172 :: u173 :: u174 :: u175 :: u176 :: u177 :: u178 :: u179 :: u180 :: u181 :: u182 :: u183 :: u184 :: u185 :: u186 :: u187 :: u188 :: u189 :: u190 :: u191 :: u192 :: u193 :: u194 :: u195 :: u196 :: u197 :: u198 :: u199 :: u200 :: u201 :: u202 :: u203 :: u204 :: u205 :: u206 :: u207 :: u208 :: u209 :: u210 :: u211 :: u212 :: u213 :: u214 :: u215 :: u216 :: u217 :: u218 :: u219 :: u220 :: u221 :: u222 :: u223 :: u224 :: u225 :: u226 :: u227 :: u228 :: u229 :: u230 :: u231 :: u232 :: u233 :: u234 :: u235 :: u236 :: c237 :: c238 :: c239 :: c240 :: c241 :: c242 :: c243 :: c244 :: c245 :: c246 :: c247 :: c248 :: c249 :: c250 :: c251 :: c252 :: c253 :: c254 :: c255 :: c256 :: c257 :: c258 :: c259 :: c260 :: u261 :: u262 :: u263 :: u264 :: u265 :: u266 :: u267 :: u268 :: u269 :: u270 :: u271 :: []), []⟩ W') :
    Code.wp Try.prog c Q ⟨List.toArray (.slice (some ad) nl c0 :: u1 :: u2 :: u3 :: u4 :: u5 :: u6 :: .pointer (some ⟨b7, 0, none⟩) :: .slice (some ad8) n8 k8 :: u9 :: u10 :: u11 :: .slice A12 ns k12 :: u13 :: u14 :: u15 :: u16 :: u17 :: u18 :: u19 :: u20 :: u21 :: u22 :: u23 :: u24 :: u25 :: u26 :: u27 :: u28 :: u29 :: u30 :: u31 :: u32 :: u33 :: u34 :: u35 :: u36 :: u37 :: u38 :: u39 :: u40 :: u41 :: u42 :: u43 :: u44 :: u45 :: u46 :: u47 :: u48 :: u49 :: u50 :: u51 :: u52 :: u53 :: u54 :: u55 :: u56 :: u57 :: u58 :: u59 :: u60 :: u61 :: u62 :: u63 :: u64 :: u65 :: u66 :: u67 :: u68 :: u69 :: u70 :: u71 :: u72 :: u73 :: u74 :: u75 :: u76 :: u77 :: u78 :: u79 :: u80 :: u81 :: u82 :: u83 :: u84 :: u85 :: u86 :: u87 :: u88 :: u89 :: u90 :: u91 :: u92 :: u93 :: u94 :: u95 :: u96 :: u97 :: u98 :: u99 :: u100 :: u101 :: u102 :: u103 :: u104 :: u105 :: u106 :: u107 :: u108 :: u109 :: u110 :: u111 :: u112 :: u113 :: u114 :: u115 :: u116 :: u117 :: u118 :: u119 :: u120 :: u121 :: u122 :: u123 :: u124 :: u125 :: u126 :: u127 :: u128 :: u129 :: u130 :: u131 :: u132 :: u133 :: u134 :: u135 :: u136 :: u137 :: u138 :: u139 :: u140 :: u141 :: u142 :: u143 :: u144 :: u145 :: u146 :: u147 :: u148 :: u149 :: u150 :: u151 :: u152 :: u153 :: u154 :: u155 :: u156 :: u157 :: u158 :: u159 :: u160 :: u161 :: u162 :: u163 :: u164 :: u165 :: u166 :: u167 :: u168 :: u169 :: u170 :: u171 :: u172 :: u173 :: u174 :: u175 :: u176 :: u177 :: u178 :: u179 :: u180 :: u181 :: u182 :: u183 :: u184 :: u185 :: u186 :: u187 :: u188 :: u189 :: u190 :: u191 :: u192 :: u193 :: u194 :: u195 :: u196 :: u197 :: u198 :: u199 :: u200 :: u201 :: u202 :: u203 :: u204 :: u205 :: u206 :: u207 :: u208 :: u209 :: u210 :: u211 :: u212 :: u213 :: u214 :: u215 :: u216 :: u217 :: u218 :: u219 :: u220 :: u221 :: u222 :: u223 :: u224 :: u225 :: u226 :: u227 :: u228 :: u229 :: u230 :: u231 :: u232 :: u233 :: u234 :: u235 :: u236 :: u237 :: u238 :: u239 :: u240 :: u241 :: u242 :: u243 :: u244 :: u245 :: u246 :: u247 :: u248 :: u249 :: u250 :: u251 :: u252 :: u253 :: u254 :: u255 :: u256 :: u257 :: u258 :: u259 :: u260 :: u261 :: u262 :: u263 :: u264 :: u265 :: u266 :: u267 :: u268 :: u269 :: u270 :: u271 :: []), []⟩ W := by
  subst hc
  conv => arg 2; whnf
  have HKD := Lib.hid KD
  have HQ := Lib.hid hQ
  have HWR := Lib.hid (Below.refl W.heap.size W)
  clear hQ KD
  go_region_held3 (fun w' => w'.cell? ⟨b7, 0, none⟩ = some (strV code) ∧ w'.cell? ad8 = some (strV code) ∧ w'.cell? ⟨ad8.block, ad8.off + 1, none⟩ = some (.int .i64 1)) (go_keep)
    (first
      | (go_at_call 19; ((with_reducible refine (HKD.out _ HWR.out.drew).mono ?_); rintro e w8 ⟨rfl, hb8⟩; have hk1 := (hb8.cell (p := ⟨b7, 0, none⟩) hbx).trans e0; have hk2 := (hb8.cell (p := ad8) hab8).trans o0; have hk3 := (hb8.cell (p := ⟨ad8.block, ad8.off + 1, none⟩) hab8).trans o1)))
  have hbq := HWR.out.drew.trans hb8
  trace_state
  exact HQ.out _ _ _ _ _ _ _ _ _ _ _ _ _ _ _ _ _ _ _ _ _ _ _ _ _ hbq

end Kt
end Go.Proofs.Ytlgpambbghkffaa
end
section
/- Arguments: items, with their parts and others, as cells. -/
namespace Go.Proofs.Ytlgpambbghkffaa
namespace Kt
open Go.ChangeShapes Go.WideShapes Go.ChangeAt Go.RowKit Go.Maps Go.Deep
set_option linter.unusedVariables false
set_option linter.constructorNameAsVariable false
set_option maxRecDepth 100000

theorem cell_lt {w : World} {p : Addr} {u : Value} (h : w.cell? p = some u) : p.block < w.heap.size := World.block_lt_of_cell? w p h
theorem pcells_get : ∀ (l : List Pt) (j : Nat) (u : Value), (pcells l)[j]? = some u → ∃ (k : Nat) (p : Pt), l[k]? = some p ∧ ((j = k * 2 ∧ u = encStr p.1) ∨ (j = k * 2 + 1 ∧ u = .int .i64 p.2))
  | [], j, u, h => by simp [pcells] at h
  | p :: l, 0, u, h => ⟨0, p, rfl, .inl ⟨rfl, by simpa [pcells] using h.symm⟩⟩
  | p :: l, 1, u, h => ⟨0, p, rfl, .inr ⟨rfl, by simpa [pcells] using h.symm⟩⟩
  | p :: l, j + 2, u, h => by
    obtain ⟨k, q, hk, hj⟩ := pcells_get l j u (by simpa [pcells] using h)
    exact ⟨k + 1, q, by simpa using hk, by
      rcases hj with ⟨rfl, rfl⟩ | ⟨rfl, rfl⟩
      · exact .inl ⟨by omega, rfl⟩
      · exact .inr ⟨by omega, rfl⟩⟩

/-- Parts whose slice lies in a cell. -/
theorem parts_of_cell {H : Type} {enc : TypeId × Value → H} {W : World} {base fuel : Nat} {sp : Nat → Bool} {held : Bool} {v : Value} {x : DataW H × List MemPlace}
    (hf : DataW.trod enc Try.prog W base sp held fuel 29 [v] = some x) : ∃ l, PSl W W.heap.size v l ∧ Sized l ∧ (l = [] ∨ ∃ elems spare, x.1 = .slice elems spare ∧ l.length = elems.length) := by
  rcases open_slice Try.underlying29 hf with ⟨hcs, _⟩ | ⟨a, len, cap, m, n, D, Pl, hcs, _, hl, hm, hmm, hx, hi⟩
  · simp at hcs
    subst hcs
    exact ⟨[], ⟨none, 0, rfl, Nat.le_refl _, by simp [maxLen], fun _ => rfl, Lies.none⟩, Sized.nil, .inl rfl⟩
  · simp at hcs
    subst hcs
    have hlm : len ≤ m := by rw [hmm]; split <;> omega
    have hC : Try.prog.cellsOf 39 = 2 := by kernel_rfl
    have hpt : ∀ i, i < len → ∃ q : Pt, W.cell? (a.add (i * 2)) = some (encStr q.1) ∧ W.cell? (a.add (i * 2 + 1)) = some (.int .i64 q.2) ∧ q.1.length ≤ maxLen ∧ -9223372036854775808 ≤ q.2 ∧ q.2 ≤ 9223372036854775807 := by
      intro i hil
      obtain ⟨cs', hc, ht⟩ := hi i (by omega)
      rw [hC] at hc
      obtain ⟨y0, y1, n', hxx, hcl, t0, t1⟩ := trod_struct2 Try.underlying39 ht
      obtain ⟨s, hs, _, hsl⟩ := DataW.trod_string Try.underlying9 t0
      obtain ⟨z, hz, _, hzw⟩ := DataW.trod_int Try.underlying2 t1
      obtain ⟨_, hlen, hat⟩ := World.cells?_some hc
      have hC9 : Try.prog.cellsOf 9 = 1 := by kernel_rfl
      have hC2 : Try.prog.cellsOf 2 = 1 := by kernel_rfl
      match cs', hlen with
      | [u0, u1], _ =>
        simp only [hC9, hC2, List.drop_zero, List.drop_succ_cons, List.take_succ_cons, List.take_zero, List.cons.injEq, and_true] at hs hz
        subst hs
        subst hz
        have c0 := hat 0 (by omega)
        have c1 := hat 1 (by omega)
        rw [addr_add] at c0 c1
        refine ⟨(s.data.toList, z), c0, c1, by show s.data.toList.length ≤ maxLen; rw [Array.length_toList]; exact hsl, ?_⟩
        exact bounds_i64 hzw
    let f : Nat → Pt := fun i => if h : i < len then Classical.choose (hpt i h) else ([], 0)
    have hff : ∀ i, i < len → W.cell? (a.add (i * 2)) = some (encStr (f i).1) ∧ W.cell? (a.add (i * 2 + 1)) = some (.int .i64 (f i).2) ∧ (f i).1.length ≤ maxLen ∧ -9223372036854775808 ≤ (f i).2 ∧ (f i).2 ≤ 9223372036854775807 := by
      intro i hil
      have := Classical.choose_spec (hpt i hil)
      simp only [f, dif_pos hil]
      exact this
    have hgetl : ∀ (k : Nat) (q : Pt), ((List.range len).map f)[k]? = some q → k < len ∧ q = f k := by
      intro k q hq
      rw [List.getElem?_map] at hq
      by_cases hk : k < len
      · rw [List.getElem?_range hk] at hq
        exact ⟨hk, by simpa using hq.symm⟩
      · rw [List.getElem?_eq_none (by simpa using hk)] at hq
        cases hq
    have hlen : ((List.range len).map f).length = len := by simp
    refine ⟨(List.range len).map f, ⟨some a, cap, by rw [hlen], by omega, hm, fun h => (by cases h), fun hne => ?_⟩, fun q hq => ?_, .inr ?_⟩
    · have h0 : 0 < len := by
        rcases Nat.eq_zero_or_pos len with h | h
        · subst h; simp [pcells] at hne
        · exact h
      refine ⟨a, rfl, by have := cell_lt (hff 0 h0).1; rw [addr_block] at this; exact this, fun j u hu => ?_⟩
      obtain ⟨k, q, hk, hj⟩ := pcells_get _ j u hu
      obtain ⟨hkl, rfl⟩ := hgetl k q hk
      rcases hj with ⟨rfl, rfl⟩ | ⟨rfl, rfl⟩
      · exact (hff k hkl).1
      · exact (hff k hkl).2.1
    · obtain ⟨k, hk, rfl⟩ := List.mem_map.1 hq
      have := hff k (by simpa using hk)
      exact this.2.2
    · exact ⟨_, _, by rw [hx], by simp⟩

/-- Texts whose slice lies in a cell. -/
theorem texts_of_cell {H : Type} {enc : TypeId × Value → H} {W : World} {base fuel : Nat} {sp : Nat → Bool} {held : Bool} {v : Value} {x : DataW H × List MemPlace}
    (hf : DataW.trod enc Try.prog W base sp held fuel 30 [v] = some x) : ∃ l, TSl W W.heap.size v l ∧ (∀ s ∈ l, s.length ≤ maxLen) ∧ (l = [] ∨ ∃ elems spare, x.1 = .slice elems spare ∧ l.length = elems.length) := by
  rcases open_slice Try.underlying30 hf with ⟨hcs, _⟩ | ⟨a, len, cap, m, n, D, Pl, hcs, _, hl, hm, hmm, hx, hi⟩
  · simp at hcs
    subst hcs
    exact ⟨[], TSl.nil, by simp, .inl rfl⟩
  · simp at hcs
    subst hcs
    have hlm : len ≤ m := by rw [hmm]; split <;> omega
    have hC : Try.prog.cellsOf 9 = 1 := by kernel_rfl
    have hpt : ∀ i, i < len → ∃ q : List UInt8, W.cell? (a.add i) = some (strV q) ∧ q.length ≤ maxLen := by
      intro i hil
      obtain ⟨cs', hc, ht⟩ := hi i (by omega)
      rw [hC, Nat.mul_one] at hc
      obtain ⟨s, hs, _, hsl⟩ := DataW.trod_string Try.underlying9 ht
      obtain ⟨_, hlen, hat⟩ := World.cells?_some hc
      subst hs
      have c0 := hat 0 (by omega)
      rw [addr_add] at c0
      exact ⟨s.data.toList, c0, by show s.data.toList.length ≤ maxLen; rw [Array.length_toList]; exact hsl⟩
    obtain ⟨f, hff⟩ := choose_lt hpt
    have hlen : ((List.range len).map f).length = len := by simp
    refine ⟨(List.range len).map f, ⟨some a, cap, by rw [hlen], by omega, hm, fun h => (by cases h), fun hne => ?_⟩, fun q hq => ?_, .inr ⟨_, _, by rw [hx], by simp⟩⟩
    · have h0 : 0 < len := by
        rcases Nat.eq_zero_or_pos len with h | h
        · subst h; simp [tcells] at hne
        · exact h
      refine ⟨a, rfl, by have := cell_lt (hff 0 h0).1; rw [addr_block] at this; exact this, fun j u hu => ?_⟩
      have hj : j < len := by have := (List.getElem?_eq_some_iff.1 hu).1; rw [tcells_length, hlen] at this; exact this
      have h1 := tcells_get (l := (List.range len).map f) (k := j) (s := f j) (by simp [hj])
      rw [h1] at hu
      rw [← hu]
      exact (hff j hj).1
    · obtain ⟨k, hk, rfl⟩ := List.mem_map.1 hq
      exact (hff k (by simpa using hk)).2

/-- Items of any size that a call can hand. -/
def Iv.Wide (x : Iv) : Prop := x.it.code.length ≤ maxLen ∧ (-9223372036854775808 ≤ x.it.life ∧ x.it.life ≤ 9223372036854775807) ∧ Sized x.it.parts ∧ (∀ s ∈ x.others, s.length ≤ maxLen)
/-- How an item's lists lie in what was handed. -/
def Iv.In {H : Type} (x : Iv) (d : DataW H) : Prop := ∃ d0 d1 d2 d3, d = .agg [d0, d1, d2, d3] ∧ (x.it.parts = [] ∨ ∃ elems spare, d2 = .slice elems spare ∧ x.it.parts.length = elems.length) ∧ (x.others = [] ∨ ∃ elems spare, d3 = .slice elems spare ∧ x.others.length = elems.length)
theorem item_of_cells {H : Type} {enc : TypeId × Value → H} {W : World} {base fuel : Nat} {sp : Nat → Bool} {held : Bool} {cs : List Value} {x : DataW H × List MemPlace} (hl : cs.length = 4)
    (h : DataW.trod enc Try.prog W base sp held fuel 32 cs = some x) : ∃ y : Iv, cs = encI y ∧ ISub W W.heap.size y ∧ y.Wide ∧ y.In x.1 := by
  obtain ⟨ys, n, _, hx, _, hyl, hf⟩ := DataW.trod_struct Try.underlying32 h
  match cs, hl with
  | [c0, c1, c2, c3], _ =>
    have hC3 : Try.prog.cellsOf 3 = 1 := by kernel_rfl
    have hC9 : Try.prog.cellsOf 9 = 1 := by kernel_rfl
    have hCP : Try.prog.cellsOf 29 = 1 := by kernel_rfl
    have hCO : Try.prog.cellsOf 30 = 1 := by kernel_rfl
    match ys, hyl with
    | [y0, y1, y2, y3], _ =>
    have g0 : DataW.trod enc Try.prog W base sp held n 9 [c0] = some y0 := by have h := hf 0 _ rfl; simpa [hC9] using h
    have g1 : DataW.trod enc Try.prog W base sp held n 3 [c1] = some y1 := by have h := hf 1 _ rfl; simpa [hC3] using h
    have g2 : DataW.trod enc Try.prog W base sp held n 29 [c2] = some y2 := by have h := hf 2 _ rfl; simpa [hCP] using h
    have g3 : DataW.trod enc Try.prog W base sp held n 30 [c3] = some y3 := by have h := hf 3 _ rfl; simpa [hCO] using h
    obtain ⟨s, e0, _, w0⟩ := DataW.trod_string Try.underlying9 g0
    obtain ⟨i, e1, _, w1⟩ := DataW.trod_int Try.underlying3 g1
    obtain ⟨ps, hp, hps, hpd⟩ := parts_of_cell g2
    obtain ⟨os, ho, hos, hod⟩ := texts_of_cell g3
    simp only [List.cons.injEq, and_true] at e0 e1
    subst e0 e1
    exact ⟨⟨⟨s.data.toList, i, ps⟩, os, c2, c3⟩, rfl, ⟨hp, ho⟩, ⟨by show s.data.toList.length ≤ maxLen; rw [Array.length_toList]; exact w0, bounds_i64 w1, hps, hos⟩, ⟨_, _, _, _, by rw [hx]; rfl, hpd, hod⟩⟩

instance : Inhabited Iv := ⟨⟨⟨[], 0, []⟩, [], .slice none 0 0, .slice none 0 0⟩⟩
/-- A list of items that is handed. -/
theorem open_items {H : Type} {enc : TypeId × Value → H} {W : World} {r : Go.Reach} {b0 base : Nat} {sp : Nat → Bool} {held : Bool} {v : Value} {d : DataW H} {p : List MemPlace} (hval : Value.okWide Try.prog W r b0 22 v)
    (h : DataW.Trod enc Try.prog W base sp held 22 v d p) : ∃ l, ISl W W.heap.size v l ∧ (∀ x ∈ l, Iv.Wide x) ∧ (l = [] ∨ ∃ elems spare, d = .slice elems spare ∧ l.length = elems.length ∧ ∀ (k : Nat) (x : Iv), l[k]? = some x → ∃ e, elems[k]? = some e ∧ x.In e) := by
  obtain ⟨a0, len0, cap0, rfl⟩ := okWide_slice Try.underlying22 hval
  obtain ⟨fuel, hf⟩ := h
  rcases open_slice Try.underlying22 hf with ⟨hcs, _⟩ | ⟨a, len, cap, m, n, D, Pl, hcs, _, hl, hm, hmm, hx, hi⟩
  · simp [Value.cells] at hcs
    obtain ⟨rfl, rfl, rfl⟩ := hcs
    exact ⟨[], ⟨⟨none, 0, rfl, Nat.le_refl _, by simp [maxLen], fun _ => rfl, Lies.none⟩, fun x hx => by simp at hx⟩, fun x hx => by simp at hx, .inl rfl⟩
  · simp [Value.cells] at hcs
    obtain ⟨rfl, rfl, rfl⟩ := hcs
    have hlm : len0 ≤ m := by rw [hmm]; split <;> omega
    have hC : Try.prog.cellsOf 32 = 4 := by kernel_rfl
    have hpt : ∀ i, i < len0 → ∃ y : Iv, (ISub W W.heap.size y ∧ y.Wide ∧ y.In (D i)) ∧ ∀ c u, (encI y)[c]? = some u → W.cell? (a.add (i * 4 + c)) = some u := by
      intro i hil
      obtain ⟨cs', hc, ht⟩ := hi i (by omega)
      rw [hC] at hc
      obtain ⟨_, hlen, hat⟩ := World.cells?_some hc
      obtain ⟨y, rfl, hy1, hy2, hy3⟩ := item_of_cells hlen ht
      refine ⟨y, ⟨hy1, hy2, hy3⟩, fun c u hu => ?_⟩
      have hc4 : c < 4 := by have := (List.getElem?_eq_some_iff.1 hu).1; rw [encI_length] at this; exact this
      have := hat c hc4
      rw [addr_add] at this
      rw [this, hu]
    obtain ⟨f, hff⟩ := choose_lt hpt
    have hlen : ((List.range len0).map f).length = len0 := by simp
    have hget : ∀ k, k < len0 → ((List.range len0).map f)[k]? = some (f k) := fun k hk => by simp [hk]
    have hmemf : ∀ q ∈ (List.range len0).map f, ∃ k, k < len0 ∧ f k = q := fun q hq => by
      obtain ⟨k, hk, rfl⟩ := List.mem_map.1 hq
      exact ⟨k, by simpa using hk, rfl⟩
    refine ⟨(List.range len0).map f, ⟨⟨some a, cap0, by rw [hlen], by omega, hm, fun h => (by cases h), fun hne => ?_⟩, fun q hq => ?_⟩, fun q hq => ?_, .inr ?_⟩
    · have h0 : 0 < len0 := by
        rcases Nat.eq_zero_or_pos len0 with h | h
        · subst h; simp [icells] at hne
        · exact h
      refine ⟨a, rfl, by have := cell_lt ((hff 0 h0).2 0 _ rfl); rw [addr_block] at this; exact this, fun j u hu => ?_⟩
      have hj : j < len0 * 4 := by have := (List.getElem?_eq_some_iff.1 hu).1; rw [icells_length, hlen] at this; exact this
      have hk : j / 4 < len0 := by omega
      have := icells_get _ _ _ (hget (j / 4) hk) (j % 4) (by omega)
      rw [show j / 4 * 4 + j % 4 = j by omega] at this
      rw [this] at hu
      have := (hff (j / 4) hk).2 (j % 4) u hu
      rwa [show j / 4 * 4 + j % 4 = j by omega] at this
    · obtain ⟨k, hk, rfl⟩ := hmemf q hq
      exact (hff k hk).1.1
    · obtain ⟨k, hk, rfl⟩ := hmemf q hq
      exact (hff k hk).1.2.1
    · simp only [Prod.mk.injEq] at hx
      refine ⟨_, _, hx.1, by simp, fun k x hkx => ?_⟩
      by_cases hk : k < len0
      · rw [hget k hk] at hkx
        cases hkx
        exact ⟨D k, by simp [hk], (hff k hk).1.2.2⟩
      · rw [List.getElem?_eq_none (by rw [hlen]; omega)] at hkx; cases hkx
theorem Iv.Wide.big {l : List Iv} (h : ∀ x ∈ l, Iv.Wide x) (hl : ∀ x ∈ l, x.it.parts.length ≤ 140737488355328 ∧ x.others.length ≤ 140737488355328) : BigI l := fun x hx => ⟨(h x hx).1, (h x hx).2.2.1, hl x hx⟩
theorem Iv.Wide.sized {l : List Iv} (h : ∀ x ∈ l, Iv.Wide x) (hl : FewI l) : SizedI l := fun x hx => by
  obtain ⟨h1, h2, h3, h4⟩ := h x hx
  have := hl x hx
  exact ⟨h1, h2, h3, h4, by omega, by omega⟩

theorem weightsAll_mem {H : Type} {P : Program} {e : TypeId} : ∀ {ds : List (DataW H)} {k : Nat} {d : DataW H}, ds[k]? = some d → ∀ n ∈ d.weights P e, n ∈ DataW.weightsAll P e ds
  | d0 :: ds, 0, d, hd, n, hn => by
    simp only [List.getElem?_cons_zero, Option.some.injEq] at hd
    subst hd
    simp only [DataW.weightsAll, List.mem_append]
    exact .inl hn
  | d0 :: ds, k + 1, d, hd, n, hn => by
    simp only [List.getElem?_cons_succ] at hd
    simp only [DataW.weightsAll, List.mem_append]
    exact .inr (weightsAll_mem hd n hn)
  | [], _, _, hd, _, _ => by simp at hd
/-- The lists inside of what is handed are no longer than what can be handed. -/
theorem sized_items {H : Type} {ts : List TypeId} {ds : List (DataW H)} (h : (DataW.weightsEach Try.prog ts ds).all (· ≤ reachBytes) = true) {j : Nat} {elems spare : List (DataW H)} (ht : ts[j]? = some 22) (hd : ds[j]? = some (.slice elems spare))
    {l : List Iv} (hl : ∀ (k : Nat) (x : Iv), l[k]? = some x → ∃ e, elems[k]? = some e ∧ x.In e) : ∀ x ∈ l, x.it.parts.length ≤ 140737488355328 ∧ x.others.length ≤ 140737488355328 := by
  intro x hx
  obtain ⟨k, hk⟩ := List.getElem?_of_mem hx
  obtain ⟨e, he, d0, d1, d2, d3, rfl, hp, ho⟩ := hl k x hk
  have hall : ∀ n ∈ DataW.weightsEach Try.prog [9, 3, 29, 30] [d0, d1, d2, d3], n ≤ reachBytes := by
    intro n hn
    have h1 : n ∈ (DataW.agg [d0, d1, d2, d3] : DataW H).weights Try.prog 32 := by
      simp only [DataW.weights, Try.underlying32]
      exact hn
    have h2 := weightsAll_mem he n h1
    have h3 := List.all_eq_true.1 h n (DataW.weights_mem_each ht hd n (by
      simp only [DataW.weights, Try.underlying22, List.mem_cons, List.mem_append]
      exact .inr (.inl h2)))
    simpa using h3
  have hlt := reachBytes_lt
  constructor
  · rcases hp with hp | ⟨el, sp, rfl, hp⟩
    · simp [hp]
    · have hB : Try.prog.bytesOf 39 = 24 := by kernel_rfl
      have := hall _ (DataW.weights_mem_each (j := 2) rfl rfl ((el.length + sp.length) * Try.prog.bytesOf 39) (by simp [DataW.weights, Try.underlying29]))
      rw [hB] at this
      omega
  · rcases ho with ho | ⟨el, sp, rfl, ho⟩
    · simp [ho]
    · have hB : Try.prog.bytesOf 9 = 16 := by kernel_rfl
      have := hall _ (DataW.weights_mem_each (j := 3) rfl rfl ((el.length + sp.length) * Try.prog.bytesOf 9) (by simp [DataW.weights, Try.underlying30]))
      rw [hB] at this
      omega
end Kt
end Go.Proofs.Ytlgpambbghkffaa
end
