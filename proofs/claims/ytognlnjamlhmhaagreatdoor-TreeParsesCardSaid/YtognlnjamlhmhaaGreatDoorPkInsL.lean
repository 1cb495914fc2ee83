/- InsL InsideW -/
import Derived.Test.YtognlnjamlhmhaaGreatDoorPkIncC
import Derived.Test.YtognlnjamlhmhaaGreatDoorPkIncB
import Derived.Test.YtognlnjamlhmhaaGreatDoorPkIncA
import Derived.Test.YtognlnjamlhmhaaGreatDoorPkIncD
import Derived.Test.YtognlnjamlhmhaaGreatDoorPkIncF
import Derived.Test.YtognlnjamlhmhaaGreatDoorPkIncE
/- inside's loop: its round, out of its ways; the loop. -/
namespace Go.Proofs.YtognlnjamlhmhaaGreatDoor.Char
open Go.RowKit Go.Lib
set_option maxRecDepth 1000000 in
set_option maxHeartbeats 8000000 in
theorem inc_round {w : World} {xs : List TkV} {S gt jt p deep sz N : Nat} (hSl2 : S < w.heap.size) (hxl : xs.length ≤ 4000) (hd11 : deep < 12) (hok : ∀ x, x ∈ xs → TkOk x.1) (hT : TkOn w S (.slice (some ⟨gt, 0, none⟩) xs.length jt) xs)
    (hih : ∀ W q sq, TkOn W S (.slice (some ⟨gt, 0, none⟩) xs.length jt) xs → StAt W S (.slice (some ⟨gt, 0, none⟩) xs.length jt) q sq → (hq : q < xs.length) → xs[q].1.kd = 1 → sq ≤ 120 → Calls Tryz.prog 22 #[.pointer (some ⟨S, 0, none⟩), .int .i64 ((deep + 1 : Nat) : Int)] W (InsPost xs S (.slice (some ⟨gt, 0, none⟩) xs.length jt) q (deep + 1) sq W)) (c2 c3 c6 c12 c13 c14 c15 c16 c17 c18 c19 c20 c21 c22 c23 c24 c25 c26 c27 c28 c29 c30 c31 c32 c33 c34 c35 c36 c37 c38 c39 c40 c41 c42 c43 c44 c45 c46 c47 c48 c49 c50 c51 c52 c53 c54 c55 c56 c57 c58 c192 : Value) (Q0 : Exit → Act → World → Prop) (hret : ∀ a' w', bodyPost Tryz.prog Tryz.f22 (InsPost xs S (.slice (some ⟨gt, 0, none⟩) xs.length jt) p deep sz w) .ret a' w' → Q0 .ret a' w') (hexit : ∀ a' w', InsWX w xs S (.slice (some ⟨gt, 0, none⟩) xs.length jt) p deep sz N c2 c3 c6 c12 c13 c14 c15 c16 c17 c18 c19 c20 c21 c22 c23 c24 c25 c26 c27 c28 c29 c30 c31 c32 c33 c34 c35 c36 c37 c38 c39 c40 c41 c42 c43 c44 c45 c46 c47 c48 c49 c50 c51 c52 c53 c54 c55 c56 c57 c58 c192 a' w' → Q0 (.exit 0) a' w') (a : Act) (wr : World) (hI : InsWI w xs S (.slice (some ⟨gt, 0, none⟩) xs.length jt) p deep sz N c2 c3 c6 c12 c13 c14 c15 c16 c17 c18 c19 c20 c21 c22 c23 c24 c25 c26 c27 c28 c29 c30 c31 c32 c33 c34 c35 c36 c37 c38 c39 c40 c41 c42 c43 c44 c45 c46 c47 c48 c49 c50 c51 c52 c53 c54 c55 c56 c57 c58 c192 a wr) :
    Code.wp Tryz.prog insBody (Exit.then (fun a' w'' => InsWI w xs S (.slice (some ⟨gt, 0, none⟩) xs.length jt) p deep sz N c2 c3 c6 c12 c13 c14 c15 c16 c17 c18 c19 c20 c21 c22 c23 c24 c25 c26 c27 c28 c29 c30 c31 c32 c33 c34 c35 c36 c37 c38 c39 c40 c41 c42 c43 c44 c45 c46 c47 c48 c49 c50 c51 c52 c53 c54 c55 c56 c57 c58 c192 a' w'' ∧ leftS S xs.length w'' < leftS S xs.length wr) Q0) a wr := by
  unfold InsWI at hI
  obtain ⟨u5, hI⟩ := hI
  obtain ⟨u8, hI⟩ := hI
  obtain ⟨u9, hI⟩ := hI
  obtain ⟨u10, hI⟩ := hI
  obtain ⟨u11, hI⟩ := hI
  obtain ⟨u59, hI⟩ := hI
  obtain ⟨u60, hI⟩ := hI
  obtain ⟨u61, hI⟩ := hI
  obtain ⟨u62, hI⟩ := hI
  obtain ⟨u63, hI⟩ := hI
  obtain ⟨u64, hI⟩ := hI
  obtain ⟨u65, hI⟩ := hI
  obtain ⟨u66, hI⟩ := hI
  obtain ⟨u67, hI⟩ := hI
  obtain ⟨u68, hI⟩ := hI
  obtain ⟨u69, hI⟩ := hI
  obtain ⟨u70, hI⟩ := hI
  obtain ⟨u71, hI⟩ := hI
  obtain ⟨u72, hI⟩ := hI
  obtain ⟨u73, hI⟩ := hI
  obtain ⟨u74, hI⟩ := hI
  obtain ⟨u75, hI⟩ := hI
  obtain ⟨u76, hI⟩ := hI
  obtain ⟨u77, hI⟩ := hI
  obtain ⟨u78, hI⟩ := hI
  obtain ⟨u79, hI⟩ := hI
  obtain ⟨u80, hI⟩ := hI
  obtain ⟨u81, hI⟩ := hI
  obtain ⟨u82, hI⟩ := hI
  obtain ⟨u83, hI⟩ := hI
  obtain ⟨u84, hI⟩ := hI
  obtain ⟨u85, hI⟩ := hI
  obtain ⟨u86, hI⟩ := hI
  obtain ⟨u87, hI⟩ := hI
  obtain ⟨u88, hI⟩ := hI
  obtain ⟨u89, hI⟩ := hI
  obtain ⟨u90, hI⟩ := hI
  obtain ⟨u91, hI⟩ := hI
  obtain ⟨u92, hI⟩ := hI
  obtain ⟨u93, hI⟩ := hI
  obtain ⟨u94, hI⟩ := hI
  obtain ⟨u95, hI⟩ := hI
  obtain ⟨u96, hI⟩ := hI
  obtain ⟨u97, hI⟩ := hI
  obtain ⟨u98, hI⟩ := hI
  obtain ⟨u99, hI⟩ := hI
  obtain ⟨u100, hI⟩ := hI
  obtain ⟨u101, hI⟩ := hI
  obtain ⟨u102, hI⟩ := hI
  obtain ⟨u103, hI⟩ := hI
  obtain ⟨u104, hI⟩ := hI
  obtain ⟨u105, hI⟩ := hI
  obtain ⟨u106, hI⟩ := hI
  obtain ⟨u107, hI⟩ := hI
  obtain ⟨u108, hI⟩ := hI
  obtain ⟨u109, hI⟩ := hI
  obtain ⟨u110, hI⟩ := hI
  obtain ⟨u111, hI⟩ := hI
  obtain ⟨u112, hI⟩ := hI
  obtain ⟨u113, hI⟩ := hI
  obtain ⟨u114, hI⟩ := hI
  obtain ⟨u115, hI⟩ := hI
  obtain ⟨u116, hI⟩ := hI
  obtain ⟨u117, hI⟩ := hI
  obtain ⟨u118, hI⟩ := hI
  obtain ⟨u119, hI⟩ := hI
  obtain ⟨u120, hI⟩ := hI
  obtain ⟨u121, hI⟩ := hI
  obtain ⟨u122, hI⟩ := hI
  obtain ⟨u123, hI⟩ := hI
  obtain ⟨u124, hI⟩ := hI
  obtain ⟨u125, hI⟩ := hI
  obtain ⟨u126, hI⟩ := hI
  obtain ⟨u127, hI⟩ := hI
  obtain ⟨u128, hI⟩ := hI
  obtain ⟨u129, hI⟩ := hI
  obtain ⟨u130, hI⟩ := hI
  obtain ⟨u131, hI⟩ := hI
  obtain ⟨u132, hI⟩ := hI
  obtain ⟨u133, hI⟩ := hI
  obtain ⟨u134, hI⟩ := hI
  obtain ⟨u135, hI⟩ := hI
  obtain ⟨u136, hI⟩ := hI
  obtain ⟨u137, hI⟩ := hI
  obtain ⟨u138, hI⟩ := hI
  obtain ⟨u139, hI⟩ := hI
  obtain ⟨u140, hI⟩ := hI
  obtain ⟨u141, hI⟩ := hI
  obtain ⟨u142, hI⟩ := hI
  obtain ⟨u143, hI⟩ := hI
  obtain ⟨u144, hI⟩ := hI
  obtain ⟨u145, hI⟩ := hI
  obtain ⟨u146, hI⟩ := hI
  obtain ⟨u147, hI⟩ := hI
  obtain ⟨u148, hI⟩ := hI
  obtain ⟨u149, hI⟩ := hI
  obtain ⟨u150, hI⟩ := hI
  obtain ⟨u151, hI⟩ := hI
  obtain ⟨u152, hI⟩ := hI
  obtain ⟨u153, hI⟩ := hI
  obtain ⟨u154, hI⟩ := hI
  obtain ⟨u155, hI⟩ := hI
  obtain ⟨u156, hI⟩ := hI
  obtain ⟨u157, hI⟩ := hI
  obtain ⟨u158, hI⟩ := hI
  obtain ⟨u159, hI⟩ := hI
  obtain ⟨u160, hI⟩ := hI
  obtain ⟨u161, hI⟩ := hI
  obtain ⟨u162, hI⟩ := hI
  obtain ⟨u163, hI⟩ := hI
  obtain ⟨u164, hI⟩ := hI
  obtain ⟨u165, hI⟩ := hI
  obtain ⟨u166, hI⟩ := hI
  obtain ⟨u167, hI⟩ := hI
  obtain ⟨u168, hI⟩ := hI
  obtain ⟨u169, hI⟩ := hI
  obtain ⟨u170, hI⟩ := hI
  obtain ⟨u171, hI⟩ := hI
  obtain ⟨u172, hI⟩ := hI
  obtain ⟨u173, hI⟩ := hI
  obtain ⟨u174, hI⟩ := hI
  obtain ⟨u175, hI⟩ := hI
  obtain ⟨u176, hI⟩ := hI
  obtain ⟨u177, hI⟩ := hI
  obtain ⟨u178, hI⟩ := hI
  obtain ⟨u179, hI⟩ := hI
  obtain ⟨u180, hI⟩ := hI
  obtain ⟨u181, hI⟩ := hI
  obtain ⟨u182, hI⟩ := hI
  obtain ⟨u183, hI⟩ := hI
  obtain ⟨u184, hI⟩ := hI
  obtain ⟨u185, hI⟩ := hI
  obtain ⟨u186, hI⟩ := hI
  obtain ⟨u187, hI⟩ := hI
  obtain ⟨u188, hI⟩ := hI
  obtain ⟨u189, hI⟩ := hI
  obtain ⟨u190, hI⟩ := hI
  obtain ⟨u191, hI⟩ := hI
  obtain ⟨⟨p', sz', va, vk, n, hK⟩, rfl⟩ := hI
  have hEl := hK.el.lo
  have hNl : N ≠ w.heap.size ∧ N ≠ S := by omega
  by_cases hlt : p' < xs.length
  · have hmem := hok _ (List.getElem_mem hlt)
    by_cases k1 : xs[p'].1.kd = 1
    · exact inc_kid hSl2 hxl hd11 hok hT hNl hEl hK hlt k1 hih Q0 hret u5 u8 u9 u10 u11 u59 u60 u61 u62 u63 u64 u65 u66 u67 u68 u69 u70 u71 u72 u73 u74 u75 u76 u77 u78 u79 u80 u81 u82 u83 u84 u85 u86 u87 u88 u89 u90 u91 u92 u93 u94 u95 u96 u97 u98 u99 u100 u101 u102 u103 u104 u105 u106 u107 u108 u109 u110 u111 u112 u113 u114 u115 u116 u117 u118 u119 u120 u121 u122 u123 u124 u125 u126 u127 u128 u129 u130 u131 u132 u133 u134 u135 u136 u137 u138 u139 u140 u141 u142 u143 u144 u145 u146 u147 u148 u149 u150 u151 u152 u153 u154 u155 u156 u157 u158 u159 u160 u161 u162 u163 u164 u165 u166 u167 u168 u169 u170 u171 u172 u173 u174 u175 u176 u177 u178 u179 u180 u181 u182 u183 u184 u185 u186 u187 u188 u189 u190 u191 c2 c3 c6 c12 c13 c14 c15 c16 c17 c18 c19 c20 c21 c22 c23 c24 c25 c26 c27 c28 c29 c30 c31 c32 c33 c34 c35 c36 c37 c38 c39 c40 c41 c42 c43 c44 c45 c46 c47 c48 c49 c50 c51 c52 c53 c54 c55 c56 c57 c58 c192
    by_cases k2 : xs[p'].1.kd = 2
    · by_cases hnm : xs[p'].1.nm = n.nm
      · exact inc_fin hSl2 hxl hd11 hok hT hNl hEl hK hlt k2 hnm Q0 hret u5 u8 u9 u10 u11 u59 u60 u61 u62 u63 u64 u65 u66 u67 u68 u69 u70 u71 u72 u73 u74 u75 u76 u77 u78 u79 u80 u81 u82 u83 u84 u85 u86 u87 u88 u89 u90 u91 u92 u93 u94 u95 u96 u97 u98 u99 u100 u101 u102 u103 u104 u105 u106 u107 u108 u109 u110 u111 u112 u113 u114 u115 u116 u117 u118 u119 u120 u121 u122 u123 u124 u125 u126 u127 u128 u129 u130 u131 u132 u133 u134 u135 u136 u137 u138 u139 u140 u141 u142 u143 u144 u145 u146 u147 u148 u149 u150 u151 u152 u153 u154 u155 u156 u157 u158 u159 u160 u161 u162 u163 u164 u165 u166 u167 u168 u169 u170 u171 u172 u173 u174 u175 u176 u177 u178 u179 u180 u181 u182 u183 u184 u185 u186 u187 u188 u189 u190 u191 c2 c3 c6 c12 c13 c14 c15 c16 c17 c18 c19 c20 c21 c22 c23 c24 c25 c26 c27 c28 c29 c30 c31 c32 c33 c34 c35 c36 c37 c38 c39 c40 c41 c42 c43 c44 c45 c46 c47 c48 c49 c50 c51 c52 c53 c54 c55 c56 c57 c58 c192
      · exact inc_match hSl2 hxl hd11 hok hT hNl hEl hK hlt k2 hnm Q0 hret u5 u8 u9 u10 u11 u59 u60 u61 u62 u63 u64 u65 u66 u67 u68 u69 u70 u71 u72 u73 u74 u75 u76 u77 u78 u79 u80 u81 u82 u83 u84 u85 u86 u87 u88 u89 u90 u91 u92 u93 u94 u95 u96 u97 u98 u99 u100 u101 u102 u103 u104 u105 u106 u107 u108 u109 u110 u111 u112 u113 u114 u115 u116 u117 u118 u119 u120 u121 u122 u123 u124 u125 u126 u127 u128 u129 u130 u131 u132 u133 u134 u135 u136 u137 u138 u139 u140 u141 u142 u143 u144 u145 u146 u147 u148 u149 u150 u151 u152 u153 u154 u155 u156 u157 u158 u159 u160 u161 u162 u163 u164 u165 u166 u167 u168 u169 u170 u171 u172 u173 u174 u175 u176 u177 u178 u179 u180 u181 u182 u183 u184 u185 u186 u187 u188 u189 u190 u191 c2 c3 c6 c12 c13 c14 c15 c16 c17 c18 c19 c20 c21 c22 c23 c24 c25 c26 c27 c28 c29 c30 c31 c32 c33 c34 c35 c36 c37 c38 c39 c40 c41 c42 c43 c44 c45 c46 c47 c48 c49 c50 c51 c52 c53 c54 c55 c56 c57 c58 c192
    by_cases k3 : xs[p'].1.kd = 3
    · by_cases hxt : xs[p'].1.tx = []
      · exact inc_empty hSl2 hxl hd11 hok hT hNl hEl hK hlt k3 hxt Q0 hret u5 u8 u9 u10 u11 u59 u60 u61 u62 u63 u64 u65 u66 u67 u68 u69 u70 u71 u72 u73 u74 u75 u76 u77 u78 u79 u80 u81 u82 u83 u84 u85 u86 u87 u88 u89 u90 u91 u92 u93 u94 u95 u96 u97 u98 u99 u100 u101 u102 u103 u104 u105 u106 u107 u108 u109 u110 u111 u112 u113 u114 u115 u116 u117 u118 u119 u120 u121 u122 u123 u124 u125 u126 u127 u128 u129 u130 u131 u132 u133 u134 u135 u136 u137 u138 u139 u140 u141 u142 u143 u144 u145 u146 u147 u148 u149 u150 u151 u152 u153 u154 u155 u156 u157 u158 u159 u160 u161 u162 u163 u164 u165 u166 u167 u168 u169 u170 u171 u172 u173 u174 u175 u176 u177 u178 u179 u180 u181 u182 u183 u184 u185 u186 u187 u188 u189 u190 u191 c2 c3 c6 c12 c13 c14 c15 c16 c17 c18 c19 c20 c21 c22 c23 c24 c25 c26 c27 c28 c29 c30 c31 c32 c33 c34 c35 c36 c37 c38 c39 c40 c41 c42 c43 c44 c45 c46 c47 c48 c49 c50 c51 c52 c53 c54 c55 c56 c57 c58 c192
      · by_cases hn0 : n.ks.length = 0
        · by_cases hm : 120 < sz' + 1
          · exact inc_leafEno hSl2 hxl hd11 hok hT hNl hEl hK hlt k3 hxt hn0 hm Q0 hret u5 u8 u9 u10 u11 u59 u60 u61 u62 u63 u64 u65 u66 u67 u68 u69 u70 u71 u72 u73 u74 u75 u76 u77 u78 u79 u80 u81 u82 u83 u84 u85 u86 u87 u88 u89 u90 u91 u92 u93 u94 u95 u96 u97 u98 u99 u100 u101 u102 u103 u104 u105 u106 u107 u108 u109 u110 u111 u112 u113 u114 u115 u116 u117 u118 u119 u120 u121 u122 u123 u124 u125 u126 u127 u128 u129 u130 u131 u132 u133 u134 u135 u136 u137 u138 u139 u140 u141 u142 u143 u144 u145 u146 u147 u148 u149 u150 u151 u152 u153 u154 u155 u156 u157 u158 u159 u160 u161 u162 u163 u164 u165 u166 u167 u168 u169 u170 u171 u172 u173 u174 u175 u176 u177 u178 u179 u180 u181 u182 u183 u184 u185 u186 u187 u188 u189 u190 u191 c2 c3 c6 c12 c13 c14 c15 c16 c17 c18 c19 c20 c21 c22 c23 c24 c25 c26 c27 c28 c29 c30 c31 c32 c33 c34 c35 c36 c37 c38 c39 c40 c41 c42 c43 c44 c45 c46 c47 c48 c49 c50 c51 c52 c53 c54 c55 c56 c57 c58 c192
          · exact inc_leafEok hSl2 hxl hd11 hok hT hNl hEl hK hlt k3 hxt hn0 (Nat.le_of_not_lt hm) Q0 hret u5 u8 u9 u10 u11 u59 u60 u61 u62 u63 u64 u65 u66 u67 u68 u69 u70 u71 u72 u73 u74 u75 u76 u77 u78 u79 u80 u81 u82 u83 u84 u85 u86 u87 u88 u89 u90 u91 u92 u93 u94 u95 u96 u97 u98 u99 u100 u101 u102 u103 u104 u105 u106 u107 u108 u109 u110 u111 u112 u113 u114 u115 u116 u117 u118 u119 u120 u121 u122 u123 u124 u125 u126 u127 u128 u129 u130 u131 u132 u133 u134 u135 u136 u137 u138 u139 u140 u141 u142 u143 u144 u145 u146 u147 u148 u149 u150 u151 u152 u153 u154 u155 u156 u157 u158 u159 u160 u161 u162 u163 u164 u165 u166 u167 u168 u169 u170 u171 u172 u173 u174 u175 u176 u177 u178 u179 u180 u181 u182 u183 u184 u185 u186 u187 u188 u189 u190 u191 c2 c3 c6 c12 c13 c14 c15 c16 c17 c18 c19 c20 c21 c22 c23 c24 c25 c26 c27 c28 c29 c30 c31 c32 c33 c34 c35 c36 c37 c38 c39 c40 c41 c42 c43 c44 c45 c46 c47 c48 c49 c50 c51 c52 c53 c54 c55 c56 c57 c58 c192
        · obtain ⟨mm, hmm⟩ : ∃ mm, n.ks.length = mm + 1 := ⟨n.ks.length - 1, by omega⟩
          obtain ⟨kk, hgk⟩ : ∃ kk, n.ks.getLast? = some kk := by
            cases hg : n.ks.getLast? with
            | none => rw [List.getLast?_eq_none_iff] at hg; rw [hg] at hmm; cases hmm
            | some kk => exact ⟨kk, rfl⟩
          by_cases h4 : kk.kd = 4
          · exact inc_merge hSl2 hxl hd11 hok hT hNl hEl hK hlt k3 hxt hmm hgk h4 Q0 hret u5 u8 u9 u10 u11 u59 u60 u61 u62 u63 u64 u65 u66 u67 u68 u69 u70 u71 u72 u73 u74 u75 u76 u77 u78 u79 u80 u81 u82 u83 u84 u85 u86 u87 u88 u89 u90 u91 u92 u93 u94 u95 u96 u97 u98 u99 u100 u101 u102 u103 u104 u105 u106 u107 u108 u109 u110 u111 u112 u113 u114 u115 u116 u117 u118 u119 u120 u121 u122 u123 u124 u125 u126 u127 u128 u129 u130 u131 u132 u133 u134 u135 u136 u137 u138 u139 u140 u141 u142 u143 u144 u145 u146 u147 u148 u149 u150 u151 u152 u153 u154 u155 u156 u157 u158 u159 u160 u161 u162 u163 u164 u165 u166 u167 u168 u169 u170 u171 u172 u173 u174 u175 u176 u177 u178 u179 u180 u181 u182 u183 u184 u185 u186 u187 u188 u189 u190 u191 c2 c3 c6 c12 c13 c14 c15 c16 c17 c18 c19 c20 c21 c22 c23 c24 c25 c26 c27 c28 c29 c30 c31 c32 c33 c34 c35 c36 c37 c38 c39 c40 c41 c42 c43 c44 c45 c46 c47 c48 c49 c50 c51 c52 c53 c54 c55 c56 c57 c58 c192
          · by_cases hm : 120 < sz' + 1
            · exact inc_leafOno hSl2 hxl hd11 hok hT hNl hEl hK hlt k3 hxt hmm hgk h4 hm Q0 hret u5 u8 u9 u10 u11 u59 u60 u61 u62 u63 u64 u65 u66 u67 u68 u69 u70 u71 u72 u73 u74 u75 u76 u77 u78 u79 u80 u81 u82 u83 u84 u85 u86 u87 u88 u89 u90 u91 u92 u93 u94 u95 u96 u97 u98 u99 u100 u101 u102 u103 u104 u105 u106 u107 u108 u109 u110 u111 u112 u113 u114 u115 u116 u117 u118 u119 u120 u121 u122 u123 u124 u125 u126 u127 u128 u129 u130 u131 u132 u133 u134 u135 u136 u137 u138 u139 u140 u141 u142 u143 u144 u145 u146 u147 u148 u149 u150 u151 u152 u153 u154 u155 u156 u157 u158 u159 u160 u161 u162 u163 u164 u165 u166 u167 u168 u169 u170 u171 u172 u173 u174 u175 u176 u177 u178 u179 u180 u181 u182 u183 u184 u185 u186 u187 u188 u189 u190 u191 c2 c3 c6 c12 c13 c14 c15 c16 c17 c18 c19 c20 c21 c22 c23 c24 c25 c26 c27 c28 c29 c30 c31 c32 c33 c34 c35 c36 c37 c38 c39 c40 c41 c42 c43 c44 c45 c46 c47 c48 c49 c50 c51 c52 c53 c54 c55 c56 c57 c58 c192
            · exact inc_leafOok hSl2 hxl hd11 hok hT hNl hEl hK hlt k3 hxt hmm hgk h4 (Nat.le_of_not_lt hm) Q0 hret u5 u8 u9 u10 u11 u59 u60 u61 u62 u63 u64 u65 u66 u67 u68 u69 u70 u71 u72 u73 u74 u75 u76 u77 u78 u79 u80 u81 u82 u83 u84 u85 u86 u87 u88 u89 u90 u91 u92 u93 u94 u95 u96 u97 u98 u99 u100 u101 u102 u103 u104 u105 u106 u107 u108 u109 u110 u111 u112 u113 u114 u115 u116 u117 u118 u119 u120 u121 u122 u123 u124 u125 u126 u127 u128 u129 u130 u131 u132 u133 u134 u135 u136 u137 u138 u139 u140 u141 u142 u143 u144 u145 u146 u147 u148 u149 u150 u151 u152 u153 u154 u155 u156 u157 u158 u159 u160 u161 u162 u163 u164 u165 u166 u167 u168 u169 u170 u171 u172 u173 u174 u175 u176 u177 u178 u179 u180 u181 u182 u183 u184 u185 u186 u187 u188 u189 u190 u191 c2 c3 c6 c12 c13 c14 c15 c16 c17 c18 c19 c20 c21 c22 c23 c24 c25 c26 c27 c28 c29 c30 c31 c32 c33 c34 c35 c36 c37 c38 c39 c40 c41 c42 c43 c44 c45 c46 c47 c48 c49 c50 c51 c52 c53 c54 c55 c56 c57 c58 c192
    · by_cases hm : 120 < sz' + 1
      · exact inc_leafKno hSl2 hxl hd11 hok hT hNl hEl hK hlt k1 k2 k3 hm Q0 hret u5 u8 u9 u10 u11 u59 u60 u61 u62 u63 u64 u65 u66 u67 u68 u69 u70 u71 u72 u73 u74 u75 u76 u77 u78 u79 u80 u81 u82 u83 u84 u85 u86 u87 u88 u89 u90 u91 u92 u93 u94 u95 u96 u97 u98 u99 u100 u101 u102 u103 u104 u105 u106 u107 u108 u109 u110 u111 u112 u113 u114 u115 u116 u117 u118 u119 u120 u121 u122 u123 u124 u125 u126 u127 u128 u129 u130 u131 u132 u133 u134 u135 u136 u137 u138 u139 u140 u141 u142 u143 u144 u145 u146 u147 u148 u149 u150 u151 u152 u153 u154 u155 u156 u157 u158 u159 u160 u161 u162 u163 u164 u165 u166 u167 u168 u169 u170 u171 u172 u173 u174 u175 u176 u177 u178 u179 u180 u181 u182 u183 u184 u185 u186 u187 u188 u189 u190 u191 c2 c3 c6 c12 c13 c14 c15 c16 c17 c18 c19 c20 c21 c22 c23 c24 c25 c26 c27 c28 c29 c30 c31 c32 c33 c34 c35 c36 c37 c38 c39 c40 c41 c42 c43 c44 c45 c46 c47 c48 c49 c50 c51 c52 c53 c54 c55 c56 c57 c58 c192
      · exact inc_leafKok hSl2 hxl hd11 hok hT hNl hEl hK hlt k1 k2 k3 (Nat.le_of_not_lt hm) Q0 hret u5 u8 u9 u10 u11 u59 u60 u61 u62 u63 u64 u65 u66 u67 u68 u69 u70 u71 u72 u73 u74 u75 u76 u77 u78 u79 u80 u81 u82 u83 u84 u85 u86 u87 u88 u89 u90 u91 u92 u93 u94 u95 u96 u97 u98 u99 u100 u101 u102 u103 u104 u105 u106 u107 u108 u109 u110 u111 u112 u113 u114 u115 u116 u117 u118 u119 u120 u121 u122 u123 u124 u125 u126 u127 u128 u129 u130 u131 u132 u133 u134 u135 u136 u137 u138 u139 u140 u141 u142 u143 u144 u145 u146 u147 u148 u149 u150 u151 u152 u153 u154 u155 u156 u157 u158 u159 u160 u161 u162 u163 u164 u165 u166 u167 u168 u169 u170 u171 u172 u173 u174 u175 u176 u177 u178 u179 u180 u181 u182 u183 u184 u185 u186 u187 u188 u189 u190 u191 c2 c3 c6 c12 c13 c14 c15 c16 c17 c18 c19 c20 c21 c22 c23 c24 c25 c26 c27 c28 c29 c30 c31 c32 c33 c34 c35 c36 c37 c38 c39 c40 c41 c42 c43 c44 c45 c46 c47 c48 c49 c50 c51 c52 c53 c54 c55 c56 c57 c58 c192
  · exact inc_exit hSl2 hxl hd11 hok hT hNl hEl hK (Nat.le_of_not_lt hlt) c2 c3 c6 c12 c13 c14 c15 c16 c17 c18 c19 c20 c21 c22 c23 c24 c25 c26 c27 c28 c29 c30 c31 c32 c33 c34 c35 c36 c37 c38 c39 c40 c41 c42 c43 c44 c45 c46 c47 c48 c49 c50 c51 c52 c53 c54 c55 c56 c57 c58 c192 Q0 hret hexit u5 u8 u9 u10 u11 u59 u60 u61 u62 u63 u64 u65 u66 u67 u68 u69 u70 u71 u72 u73 u74 u75 u76 u77 u78 u79 u80 u81 u82 u83 u84 u85 u86 u87 u88 u89 u90 u91 u92 u93 u94 u95 u96 u97 u98 u99 u100 u101 u102 u103 u104 u105 u106 u107 u108 u109 u110 u111 u112 u113 u114 u115 u116 u117 u118 u119 u120 u121 u122 u123 u124 u125 u126 u127 u128 u129 u130 u131 u132 u133 u134 u135 u136 u137 u138 u139 u140 u141 u142 u143 u144 u145 u146 u147 u148 u149 u150 u151 u152 u153 u154 u155 u156 u157 u158 u159 u160 u161 u162 u163 u164 u165 u166 u167 u168 u169 u170 u171 u172 u173 u174 u175 u176 u177 u178 u179 u180 u181 u182 u183 u184 u185 u186 u187 u188 u189 u190 u191
set_option maxRecDepth 1000000 in
set_option maxHeartbeats 8000000 in
theorem inc_loop {w wr : World} {xs : List TkV} {S gt jt p deep sz N p' sz' : Nat} {va vk : Value} {n : Tr} (hSl2 : S < w.heap.size) (hxl : xs.length ≤ 4000) (hd11 : deep < 12) (hok : ∀ x, x ∈ xs → TkOk x.1) (hT : TkOn w S (.slice (some ⟨gt, 0, none⟩) xs.length jt) xs)
    (hih : ∀ W q sq, TkOn W S (.slice (some ⟨gt, 0, none⟩) xs.length jt) xs → StAt W S (.slice (some ⟨gt, 0, none⟩) xs.length jt) q sq → (hq : q < xs.length) → xs[q].1.kd = 1 → sq ≤ 120 → Calls Tryz.prog 22 #[.pointer (some ⟨S, 0, none⟩), .int .i64 ((deep + 1 : Nat) : Int)] W (InsPost xs S (.slice (some ⟨gt, 0, none⟩) xs.length jt) q (deep + 1) sq W)) (hK : InsK w xs S (.slice (some ⟨gt, 0, none⟩) xs.length jt) p deep sz N p' sz' va vk n wr) (u5 u8 u9 u10 u11 u59 u60 u61 u62 u63 u64 u65 u66 u67 u68 u69 u70 u71 u72 u73 u74 u75 u76 u77 u78 u79 u80 u81 u82 u83 u84 u85 u86 u87 u88 u89 u90 u91 u92 u93 u94 u95 u96 u97 u98 u99 u100 u101 u102 u103 u104 u105 u106 u107 u108 u109 u110 u111 u112 u113 u114 u115 u116 u117 u118 u119 u120 u121 u122 u123 u124 u125 u126 u127 u128 u129 u130 u131 u132 u133 u134 u135 u136 u137 u138 u139 u140 u141 u142 u143 u144 u145 u146 u147 u148 u149 u150 u151 u152 u153 u154 u155 u156 u157 u158 u159 u160 u161 u162 u163 u164 u165 u166 u167 u168 u169 u170 u171 u172 u173 u174 u175 u176 u177 u178 u179 u180 u181 u182 u183 u184 u185 u186 u187 u188 u189 u190 u191 c2 c3 c6 c12 c13 c14 c15 c16 c17 c18 c19 c20 c21 c22 c23 c24 c25 c26 c27 c28 c29 c30 c31 c32 c33 c34 c35 c36 c37 c38 c39 c40 c41 c42 c43 c44 c45 c46 c47 c48 c49 c50 c51 c52 c53 c54 c55 c56 c57 c58 c192 : Value) (Q0 : Exit → Act → World → Prop) (hret : ∀ a' w', bodyPost Tryz.prog Tryz.f22 (InsPost xs S (.slice (some ⟨gt, 0, none⟩) xs.length jt) p deep sz w) .ret a' w' → Q0 .ret a' w') (hexit : ∀ a' w', InsWX w xs S (.slice (some ⟨gt, 0, none⟩) xs.length jt) p deep sz N c2 c3 c6 c12 c13 c14 c15 c16 c17 c18 c19 c20 c21 c22 c23 c24 c25 c26 c27 c28 c29 c30 c31 c32 c33 c34 c35 c36 c37 c38 c39 c40 c41 c42 c43 c44 c45 c46 c47 c48 c49 c50 c51 c52 c53 c54 c55 c56 c57 c58 c192 a' w' → Q0 (.exit 0) a' w') :
    Code.wp Tryz.prog (Code.loop insBody) Q0 ⟨#[.pointer (some ⟨S, 0, none⟩), .int .i64 (deep : Int), c2, c3, .pointer (some ⟨w.heap.size, 0, none⟩), u5, c6, .pointer (some ⟨N, 0, none⟩), u8, u9, u10, u11, c12, c13, c14, c15, c16, c17, c18, c19, c20, c21, c22, c23, c24, c25, c26, c27, c28, c29, c30, c31, c32, c33, c34, c35, c36, c37, c38, c39, c40, c41, c42, c43, c44, c45, c46, c47, c48, c49, c50, c51, c52, c53, c54, c55, c56, c57, c58, u59, u60, u61, u62, u63, u64, u65, u66, u67, u68, u69, u70, u71, u72, u73, u74, u75, u76, u77, u78, u79, u80, u81, u82, u83, u84, u85, u86, u87, u88, u89, u90, u91, u92, u93, u94, u95, u96, u97, u98, u99, u100, u101, u102, u103, u104, u105, u106, u107, u108, u109, u110, u111, u112, u113, u114, u115, u116, u117, u118, u119, u120, u121, u122, u123, u124, u125, u126, u127, u128, u129, u130, u131, u132, u133, u134, u135, u136, u137, u138, u139, u140, u141, u142, u143, u144, u145, u146, u147, u148, u149, u150, u151, u152, u153, u154, u155, u156, u157, u158, u159, u160, u161, u162, u163, u164, u165, u166, u167, u168, u169, u170, u171, u172, u173, u174, u175, u176, u177, u178, u179, u180, u181, u182, u183, u184, u185, u186, u187, u188, u189, u190, u191, c192], []⟩ wr := by
  refine wp_loop (InsWI w xs S (.slice (some ⟨gt, 0, none⟩) xs.length jt) p deep sz N c2 c3 c6 c12 c13 c14 c15 c16 c17 c18 c19 c20 c21 c22 c23 c24 c25 c26 c27 c28 c29 c30 c31 c32 c33 c34 c35 c36 c37 c38 c39 c40 c41 c42 c43 c44 c45 c46 c47 c48 c49 c50 c51 c52 c53 c54 c55 c56 c57 c58 c192) (fun _ w'' => leftS S xs.length w'') ?_ (fun a w'' hI => inc_round hSl2 hxl hd11 hok hT hih c2 c3 c6 c12 c13 c14 c15 c16 c17 c18 c19 c20 c21 c22 c23 c24 c25 c26 c27 c28 c29 c30 c31 c32 c33 c34 c35 c36 c37 c38 c39 c40 c41 c42 c43 c44 c45 c46 c47 c48 c49 c50 c51 c52 c53 c54 c55 c56 c57 c58 c192 Q0 hret hexit a w'' hI)
  exact InsWI.mk hK
end Go.Proofs.YtognlnjamlhmhaaGreatDoor.Char

/- The walk of the document's own inside: an element from its start tag on. -/
namespace Go.Proofs.YtognlnjamlhmhaaGreatDoor.Char
open Go.RowKit Go.Lib
set_option maxRecDepth 100000 in
set_option maxHeartbeats 16000000 in
theorem inside_any (xs : List TkV) (hok : ∀ x, x ∈ xs → TkOk x.1) (hxl : xs.length ≤ 4000) : ∀ (f deep : Nat) (w : World) (S : Nat) (tv : Value) (p sz : Nat), 12 - deep < f → deep ≤ 12 → TkOn w S tv xs → StAt w S tv p sz → (hp : p < xs.length) → xs[p].1.kd = 1 → sz ≤ 120 →
    Calls Tryz.prog 22 #[.pointer (some ⟨S, 0, none⟩), .int .i64 (deep : Int)] w (InsPost xs S tv p deep sz w) := by
  intro f
  induction f with
  | zero => intro deep w S tv p sz hf; omega
  | succ f ih =>
    intro deep w S tv p sz hf hd hT hS hp hk1 hz
    have hpl : p < (xs.map (·.1)).length := by simpa using hp
    have hkm : ((xs.map (fun x : TkV => x.1))[p]'hpl).kd = 1 := by simpa using hk1
    have hSl : S < w.heap.size := block_of_heap hS
    have hT0 := hT
    obtain ⟨ot, jt, rfl, htk⟩ := hT
    obtain ⟨gt, rfl, hgS, ⟨t0, t1, t2, t3, t4⟩, hat⟩ := htk p hp
    have htok := hok _ (List.getElem_mem hp)
    obtain ⟨s0, s1, s2, sf⟩ := hS.cells
    have hp' : (p : Int) < (xs.length : Int) := by omega
    go_enter Tryz.func22, Tryz.ntmps22
    go_wp2_with fail
    obtain ⟨W0, hW0⟩ : ∃ W0, W0 = w.alloc (.cells #[.int .i64 0, .string ⟨#[]⟩, .string ⟨#[]⟩, .slice none 0 0, .slice none 0 0] 26) := ⟨_, rfl⟩
    rw [← hW0]
    have hb0 : Below w.heap.size w W0 := by rw [hW0]; exact (Below.refl _ _).alloc (Nat.le_refl _) _
    have hz0 : W0.heap.size = w.heap.size + 1 := by rw [hW0]; simp
    have hgl : gt < w.heap.size := cell_lt t0
    have hkS := hb0.block S hSl
    have hkT := hb0.block gt hgl
    have a0 := (cell_of_block hkS 0).trans s0
    have a1 := (cell_of_block hkS 1).trans s1
    have a2 := (cell_of_block hkS 2).trans s2
    have b0 := (cell_of_block hkT (p * 5)).trans t0
    have b1 := (cell_of_block hkT (p * 5 + 1)).trans t1
    have b2 := (cell_of_block hkT (p * 5 + 2)).trans t2
    have b3 := (cell_of_block hkT (p * 5 + 3)).trans t3
    have b4 := (cell_of_block hkT (p * 5 + 4)).trans t4
    have hSl0 : S < W0.heap.size := by omega
    have hgl0 : gt < W0.heap.size := by omega
    have HW0 := Lib.hid hW0
    have HB0 := Lib.hid hb0
    have HT := Lib.hid hT0
    have HST := Lib.hid hS
    have HIH := Lib.hid ih
    have HKM := Lib.hid hkm
    have HAT := Lib.hid hat
    have HOK := Lib.hid hok
    have hp0 : (0 : Int) ≤ (p : Int) := by omega
    clear hW0 hb0 hkS hkT s0 s1 s2 sf t0 t1 t2 t3 t4 htk hT0 hS ih hkm hat hok
    generalize hx : xs[p] = x at *
    obtain ⟨⟨tk, tn, tt, tq, te⟩, tv⟩ := x
    dsimp only at b0 b1 b2 b3 b4 hk1
    obtain ⟨oa, ja, rfl⟩ : ∃ o j, tv = .slice o tq.length j := HAT.out.form
    subst hk1
    have HKX := Lib.hid (show (xs.map (fun x : TkV => x.1))[p]'hpl = ⟨1, tn, tt, tq, te⟩ by simp [hx])
    clear hx
    go_region
    obtain ⟨W1, hW1⟩ : ∃ W1, W1 = (W0.alloc (.cells #[.int .i64 1, .string (bs tn), .string (bs tt), .slice oa tq.length ja, .bool te] 48)).drew := ⟨_, rfl⟩
    rw [← hW1]
    have hb1 : Below W0.heap.size W0 W1 := by rw [hW1]; exact ((Below.refl _ _).alloc (Nat.le_refl _) _).drew
    have hz1 : W1.heap.size = w.heap.size + 2 := by rw [hW1, World.drew, World.size_alloc]; omega
    have hR1 : W1.heap[w.heap.size]? = some (.cells #[.int .i64 0, .string ⟨#[]⟩, .string ⟨#[]⟩, .slice none 0 0, .slice none 0 0] 26 (0, 0)) := by
      rw [hb1.block _ (by omega), HW0.out]
      exact World.alloc_heap_new w _
    have hT1 : W1.heap[w.heap.size + 1]? = some (.cells #[.int .i64 1, .string (bs tn), .string (bs tt), .slice oa tq.length ja, .bool te] 48 (0, 0)) := by
      rw [hW1, ← hz0]
      exact World.alloc_heap_new W0 _
    clear hW1 a0 a1 a2 b0 b1 b2 b3 b4
    have hbb : Below w.heap.size w W1 := HB0.out.trans (hb1.mono (by omega))
    have HBB := Lib.hid hbb
    have HS1 := Lib.hid (HST.out.below hbb)
    have HR1 := Lib.hid hR1
    have HT1 := Lib.hid hT1
    have hcl : ∀ W : World, W.heap[w.heap.size]? = W1.heap[w.heap.size]? → W.heap[w.heap.size + 1]? = W1.heap[w.heap.size + 1]? →
        (W.cell? ⟨w.heap.size, 0, none⟩ = some (.int .i64 0) ∧ W.cell? ⟨w.heap.size, 1, none⟩ = some (.string ⟨#[]⟩) ∧ W.cell? ⟨w.heap.size, 2, none⟩ = some (.string ⟨#[]⟩) ∧ W.cell? ⟨w.heap.size, 3, none⟩ = some (.slice none 0 0) ∧ W.cell? ⟨w.heap.size, 4, none⟩ = some (.slice none 0 0)) ∧ (∀ i, W.frozen? ⟨w.heap.size, i, none⟩ = false) ∧
        W.cell? ⟨w.heap.size + 1, 1, none⟩ = some (.string (bs tn)) ∧ W.cell? ⟨w.heap.size + 1, 3, none⟩ = some (.slice oa tq.length ja) ∧ W.cell? ⟨w.heap.size + 1, 4, none⟩ = some (.bool te) := fun W q1 q2 => by
      have e1 := q1.trans hR1
      have e2 := q2.trans hT1
      exact ⟨⟨by simp [World.cell?, e1], by simp [World.cell?, e1], by simp [World.cell?, e1], by simp [World.cell?, e1], by simp [World.cell?, e1]⟩, fun i => by simp [World.frozen?, e1], by simp [World.cell?, e2], by simp [World.cell?, e2], by simp [World.cell?, e2]⟩
    have HCL := Lib.hid hcl
    obtain ⟨a0, a1, a2, af⟩ := HS1.out.cells
    obtain ⟨⟨r0, r1, r2, r3, r4⟩, rf, d1, d3, d4⟩ := hcl W1 rfl rfl
    clear hb1 hR1 hT1 hbb hcl
    by_cases hd12 : deep = 12
    · subst hd12
      go_wp2_with fail
      refine end_nd2 Tryz.results22 _ w.heap.size (kd := 0) (n := ⟨#[]⟩) (t := ⟨#[]⟩) (va := .slice none 0 0) (vk := .slice none 0 0) ⟨_, _, _, rfl⟩ ⟨_, _, _, rfl⟩ ⟨by go_simp, by go_simp, by go_simp, by go_simp, by go_simp⟩ rfl rfl rfl ?_
      refine InsPost.no 18 (by decide) (But.of ?_ hSl) (ins_deep hpl HKM.out)
      exact (((((HBB.out.setCell (p := ⟨w.heap.size, 0, none⟩) (Nat.le_refl _) _).setCell (p := ⟨w.heap.size, 1, none⟩) (Nat.le_refl _) _).setCell (p := ⟨w.heap.size, 2, none⟩) (Nat.le_refl _) _).setCell (p := ⟨w.heap.size, 3, none⟩) (Nat.le_refl _) _).setCell (p := ⟨w.heap.size, 4, none⟩) (Nat.le_refl _) _)
    have hd11 : deep < 12 := by omega
    have hql : tq.length ≤ 12 := htok.al
    have hw1 : IntKind.i64.wrap ((sz : Int) + 1) = (sz : Int) + 1 := IntWalk.i64_in _ (by omega)
    have hw2 : IntKind.i64.wrap ((sz : Int) + 1 + (tq.length : Int)) = ((sz + 1 + tq.length : Nat) : Int) := by rw [IntWalk.i64_in _ (by omega)]; push_cast; rfl
    go_wp2_with fail
    go_region
    clear hw1 hw2
    obtain ⟨m, hm⟩ : ∃ m, m = sz + 1 + tq.length := ⟨_, rfl⟩
    have e2 : (sz : Int) + 1 + (tq.length : Int) = (m : Int) := by omega
    rw [e2]
    obtain ⟨W2, hW2⟩ : ∃ W2, W2 = (W1.setCell ⟨S, 2, none⟩ (.int .i64 (m : Int))).drew := ⟨_, rfl⟩
    rw [← hW2]
    have hS2 : StAt W2 S (.slice (some ⟨gt, 0, none⟩) xs.length jt) p m := by rw [hW2]; exact HS1.out.many m
    have hR2 : W2.heap[w.heap.size]? = W1.heap[w.heap.size]? := by rw [hW2]; exact heap_set_ne (by omega)
    have hT2 : W2.heap[w.heap.size + 1]? = W1.heap[w.heap.size + 1]? := by rw [hW2]; exact heap_set_ne (by omega)
    have hB2 : But S w W2 := by rw [hW2]; exact ((But.of HBB.out hSl).trans (But.set S 2 W1 _)).drew
    have hz2 : W2.heap.size = w.heap.size + 2 := by rw [hW2, World.drew, World.size_setCell]; exact hz1
    have HM := Lib.hid hm
    have HS2 := Lib.hid hS2
    have HB2 := Lib.hid hB2
    have HR2 := Lib.hid hR2
    have HT2 := Lib.hid hT2
    clear a0 a1 a2 af r0 r1 r2 r3 r4 rf d1 d3 d4 e2 hm hW2
    obtain ⟨a0, a1, a2, af⟩ := hS2.cells
    obtain ⟨⟨r0, r1, r2, r3, r4⟩, rf, d1, d3, d4⟩ := HCL.out W2 hR2 hT2
    clear hS2 hR2 hT2 hB2
    by_cases hm120 : 120 < m
    · have hm2 : (120 : Int) < (m : Int) := by omega
      go_wp2_with fail
      refine end_nd2 Tryz.results22 _ w.heap.size (kd := 0) (n := ⟨#[]⟩) (t := ⟨#[]⟩) (va := .slice none 0 0) (vk := .slice none 0 0) ⟨_, _, _, rfl⟩ ⟨_, _, _, rfl⟩ ⟨by go_simp, by go_simp, by go_simp, by go_simp, by go_simp⟩ rfl rfl rfl ?_
      refine InsPost.no 19 (by decide) (HB2.out.low rfl hSl ?_) (ins_many hpl HKM.out hd11 (by rw [HKX.out]; show 120 < sz + 1 + tq.length; have := HM.out; omega))
      exact ((((((Below.refl w.heap.size W2).setCell (p := ⟨w.heap.size, 0, none⟩) (Nat.le_refl _) _).setCell (p := ⟨w.heap.size, 1, none⟩) (Nat.le_refl _) _).setCell (p := ⟨w.heap.size, 2, none⟩) (Nat.le_refl _) _).setCell (p := ⟨w.heap.size, 3, none⟩) (Nat.le_refl _) _).setCell (p := ⟨w.heap.size, 4, none⟩) (Nat.le_refl _) _)
    have hm2 : (m : Int) ≤ (120 : Int) := by omega
    have hso : ∀ W, Below W2.heap.size W2 W → Calls Tryz.prog 46 #[.slice oa tq.length ja] W (SoPost tq W) := fun W hW =>
      sorted_any tq oa ja (fun _ => True) W (AtsOn.move (w := w) (w' := W) (fun b hb hF => ⟨trivial, (hW.block b (by omega)).trans (HB2.out.2 b hb hF)⟩) HAT.out) (by omega)
    have HSO := Lib.hid hso
    have hkt : ∀ W, Below W2.heap.size W2 W → W.cell? ⟨w.heap.size + 1, 1, none⟩ = some (.string (bs tn)) ∧ W.cell? ⟨w.heap.size + 1, 3, none⟩ = some (.slice oa tq.length ja) := fun W hW => by
      have := HCL.out W ((hW.block _ (by omega)).trans HR2.out) ((hW.block _ (by omega)).trans HT2.out)
      exact ⟨this.2.2.1, this.2.2.2.1⟩
    have HKT := Lib.hid hkt
    have hnc : ∀ W3, Below (W2.alloc (.cells #[.int .i64 0, .string ⟨#[]⟩, .string ⟨#[]⟩, .slice none 0 0, .slice none 0 0] 26)).drew.heap.size (W2.alloc (.cells #[.int .i64 0, .string ⟨#[]⟩, .string ⟨#[]⟩, .slice none 0 0, .slice none 0 0] 26)).drew W3 →
        Below W2.heap.size W2 W3 ∧ w.heap.size + 2 < W3.heap.size ∧ W3.heap[w.heap.size + 2]? = some (.cells #[.int .i64 0, .string ⟨#[]⟩, .string ⟨#[]⟩, .slice none 0 0, .slice none 0 0] 26 (0, 0)) := fun W3 h3 => by
      have hsz : (W2.alloc (.cells #[.int .i64 0, .string ⟨#[]⟩, .string ⟨#[]⟩, .slice none 0 0, .slice none 0 0] 26)).drew.heap.size = w.heap.size + 3 := by show (W2.alloc _).heap.size = _; rw [World.size_alloc]; omega
      have h4 := h3.size
      refine ⟨((Below.refl W2.heap.size W2).alloc (Nat.le_refl _) _).drew.trans (h3.mono (by omega)), by omega, ?_⟩
      rw [h3.block _ (by omega), ← hz2]
      exact World.alloc_heap_new W2 _
    have HNC := Lib.hid hnc
    have HBD := Lib.hid (show Below W2.heap.size W2 (W2.alloc (.cells #[.int .i64 0, .string ⟨#[]⟩, .string ⟨#[]⟩, .slice none 0 0, .slice none 0 0] 26)).drew from ((Below.refl _ _).alloc (Nat.le_refl _) _).drew)
    clear hso hkt hnc
    go_upto_region 7 with fail
    go_cut [7] (fun s7 wx => ∃ (N : Nat) (va : Value), s7 = .pointer (some ⟨N, 0, none⟩) ∧ Hid (El (w.heap.size + 2) wx N va (.slice none 0 0) (beginT ⟨1, tn, tt, tq, te⟩) ∧ Below W2.heap.size W2 wx))
    case first =>
      go_region_held3 (fun W => W.cell? ⟨w.heap.size + 1, 1, none⟩ = some (.string (bs tn)) ∧ W.cell? ⟨w.heap.size + 1, 3, none⟩ = some (.slice oa tq.length ja))
        (first | (with_reducible exact HKT.out W2.drew (Below.refl _ _).drew) | (with_reducible exact HKT.out _ HBD.out) | (with_reducible exact ⟨by assumption, by assumption⟩) | (refine ⟨?_, ?_⟩ <;> go_simp))
        ((go_at_call 46
          first
            | ((with_reducible refine (HSO.out W2.drew (Below.refl _ _).drew).mono ?_)
               rintro e w3 ⟨o3, i3, j3, rfl, ho3, hb3⟩
               have hk3 := HKT.out w3 ((Below.refl W2.heap.size W2).drew.trans hb3)
               obtain ⟨k1, k3⟩ := hk3
               have hs3 : w.heap.size + 2 ≤ w3.heap.size := by rw [← hz2]; exact hb3.size
               have hs4 : w.heap.size + 1 < w3.heap.size := by omega)
            | ((with_reducible refine (HSO.out _ HBD.out).mono ?_)
               rintro e w3 ⟨o3, i3, j3, rfl, ho3, hb3⟩
               obtain ⟨hb4, hs4, hn3⟩ := HNC.out w3 hb3
               obtain ⟨k1, k3⟩ := HKT.out w3 hb4
               have n0 : w3.cell? ⟨w.heap.size + 2, 0, none⟩ = some (.int .i64 0) := by simp [World.cell?, hn3]
               have n1 : w3.cell? ⟨w.heap.size + 2, 1, none⟩ = some (.string ⟨#[]⟩) := by simp [World.cell?, hn3]
               have n2 : w3.cell? ⟨w.heap.size + 2, 2, none⟩ = some (.string ⟨#[]⟩) := by simp [World.cell?, hn3]
               have n3 : w3.cell? ⟨w.heap.size + 2, 3, none⟩ = some (.slice none 0 0) := by simp [World.cell?, hn3]
               have n4 : w3.cell? ⟨w.heap.size + 2, 4, none⟩ = some (.slice none 0 0) := by simp [World.cell?, hn3]
               have nf : ∀ i, w3.frozen? ⟨w.heap.size + 2, i, none⟩ = false := fun i => by simp [World.frozen?, hn3])))
      all_goals
        go_wp2_with fail
        go_meet
      · refine ⟨_, _, rfl, Lib.hid ⟨El.new (n := beginT ⟨1, tn, tt, tq, te⟩) (by omega) (ho3.on (fun g hg => Nat.le_trans (Nat.le_of_eq hz2.symm) (ho3.blkS hg).1)) rfl, ?_⟩⟩
        exact ((Below.refl W2.heap.size W2).drew.trans hb3).alloc (by omega) _
      · refine ⟨_, _, rfl, Lib.hid ⟨El.fill (n := beginT ⟨1, tn, tt, tq, te⟩) hn3 (Nat.le_refl _) (ho3.on (fun g hg => ?_)) rfl, ?_⟩⟩
        · have := (ho3.blkS hg).1
          have hsz : (W2.alloc (.cells #[.int .i64 0, .string ⟨#[]⟩, .string ⟨#[]⟩, .slice none 0 0, .slice none 0 0] 26)).drew.heap.size = w.heap.size + 3 := by show (W2.alloc _).heap.size = _; rw [World.size_alloc]; omega
          omega
        · exact (((((hb4.setCell (p := ⟨w.heap.size + 2, 0, none⟩) (Nat.le_of_eq hz2) _).setCell (p := ⟨w.heap.size + 2, 1, none⟩) (Nat.le_of_eq hz2) _).setCell (p := ⟨w.heap.size + 2, 2, none⟩) (Nat.le_of_eq hz2) _).setCell (p := ⟨w.heap.size + 2, 3, none⟩) (Nat.le_of_eq hz2) _).setCell (p := ⟨w.heap.size + 2, 4, none⟩) (Nat.le_of_eq hz2) _)
    case rest =>
      obtain ⟨N, va, rfl, hD⟩ := hcut
      obtain ⟨hE, hbW⟩ := hD.out
      have hzc : w.heap.size + 2 ≤ wc.heap.size := by rw [← hz2]; exact hbW.size
      have hSc := HS2.out.below hbW
      have hRc : wc.heap[w.heap.size]? = some (.cells #[.int .i64 0, .string ⟨#[]⟩, .string ⟨#[]⟩, .slice none 0 0, .slice none 0 0] 26 (0, 0)) := ((hbW.block _ (by omega)).trans HR2.out).trans HR1.out
      have hTc := (hbW.block (w.heap.size + 1) (by omega)).trans HT2.out
      have hRq := (hbW.block w.heap.size (by omega)).trans HR2.out
      have hBc : But S w wc := HB2.out.low rfl hSl (hbW.mono (by omega))
      obtain ⟨a0', a1', a2', af'⟩ := hSc.cells
      obtain ⟨⟨r0', r1', r2', r3', r4'⟩, rf', d1', d3', d4'⟩ := HCL.out wc hRq hTc
      have hNc := hE.cells
      have hNl : N ≠ w.heap.size ∧ N ≠ S := by have := hE.lo; omega
      have hEl := hE.lo
      obtain ⟨oa2, ja2, ok2, jk2, rfl, _⟩ := hE.form
      have hal : (beginT ⟨1, tn, tt, tq, te⟩).ats.length = tq.length := sortA_len tq
      rw [hal] at hE hNc
      have HE := Lib.hid hE
      have HSC := Lib.hid hSc
      have HBC := Lib.hid hBc
      have HRC := Lib.hid hRc
      clear hD hE hbW hSc hBc hRc hRq hTc hal a0 a1 a2 af r0 r1 r2 r3 r4 rf d1 d3 d4 HSO HKT HNC HBD HCL HS2 HB2 HR2 HT2 HS1 HR1 HT1 HBB HB0 HW0 HAT hz0 hz1 hz2 hm2
      have e0 : wc.cell? ⟨N, 0, none⟩ = some (.int .i64 2) := hNc.1
      have e1 : wc.cell? ⟨N, 1, none⟩ = some (.string (bs tn)) := hNc.2.1
      have e2 : wc.cell? ⟨N, 2, none⟩ = some (.string ⟨#[]⟩) := hNc.2.2.1
      have e3 : wc.cell? ⟨N, 3, none⟩ = some (.slice oa2 tq.length ja2) := hNc.2.2.2.1
      have e4 : wc.cell? ⟨N, 4, none⟩ = some (.slice none 0 0) := hNc.2.2.2.2
      clear hNc
      have hp1 : IntKind.i64.wrap ((p : Int) + 1) = ((p + 1 : Nat) : Int) := by rw [IntWalk.i64_in _ (by omega)]; push_cast; rfl
      have hz3 : sz + 1 + tq.length ≤ 120 := by have := HM.out; omega
      cases te with
      | true =>
        go_wp2_with fail
        refine end_nd2 Tryz.results22 _ w.heap.size (kd := 2) (n := bs tn) (t := ⟨#[]⟩) (va := .slice oa2 tq.length ja2) (vk := .slice none 0 0) ⟨_, _, _, rfl⟩ ⟨_, _, _, rfl⟩ ⟨by go_simp, by go_simp, by go_simp, by go_simp, by go_simp⟩ rfl rfl rfl ?_
        have e9 : (p : Int) + 1 = ((p + 1 : Nat) : Int) := by push_cast; rfl
        rw [e9]
        have hS1 := HSC.out.at (p + 1)
        have hB1 : But S wc (wc.setCell ⟨S, 1, none⟩ (.int .i64 ((p + 1 : Nat) : Int))) := But.set S 1 wc _
        have hio := ins_empty (ts := xs.map (fun x : TkV => x.1)) (deep := deep) (sz := sz) hpl HKM.out hd11 (by rw [HKX.out]; exact hz3) (by rw [HKX.out])
        rw [HKX.out] at hio
        refine .inr ⟨beginT ⟨1, tn, tt, tq, true⟩, .slice oa2 tq.length ja2, .slice none 0 0, p + 1, m, rfl, ?_, rfl, rfl, ?_, ?_, ?_, by omega, by omega, by omega⟩
        · refine NdOn.move (fun b _ hF => ⟨by omega, ?_⟩) _ _ _ HE.out.on
          have hne : b ≠ w.heap.size := by omega
          rw [heap_set_ne hne, heap_set_ne hne, heap_set_ne hne, heap_set_ne hne, heap_set_ne hne, heap_set_ne (by omega)]
        · refine hS1.block ?_
          have hne : S ≠ w.heap.size := by omega
          rw [heap_set_ne hne, heap_set_ne hne, heap_set_ne hne, heap_set_ne hne, heap_set_ne hne]
        · refine (HBC.out.trans hB1).low rfl hSl ?_
          exact ((((((Below.refl w.heap.size _).setCell (p := ⟨w.heap.size, 0, none⟩) (Nat.le_refl _) _).setCell (p := ⟨w.heap.size, 1, none⟩) (Nat.le_refl _) _).setCell (p := ⟨w.heap.size, 2, none⟩) (Nat.le_refl _) _).setCell (p := ⟨w.heap.size, 3, none⟩) (Nat.le_refl _) _).setCell (p := ⟨w.heap.size, 4, none⟩) (Nat.le_refl _) _)
        · rw [HM.out]
          exact hio
      | false =>
        go_wp2_with fail
        have HK0 := Lib.hid (show InsK w xs S (.slice (some ⟨gt, 0, none⟩) xs.length jt) p deep sz N (p + 1) m (.slice oa2 tq.length ja2) (.slice none 0 0) (beginT ⟨1, tn, tt, tq, false⟩) (wc.setCell ⟨S, 1, none⟩ (.int .i64 ((p + 1 : Nat) : Int))) from by
          have hS1 := HSC.out.at (p + 1)
          have hB1 : But S wc (wc.setCell ⟨S, 1, none⟩ (.int .i64 ((p + 1 : Nat) : Int))) := But.set S 1 wc _
          have hia := ins_open (ts := xs.map (fun x : TkV => x.1)) (deep := deep) (sz := sz) hpl HKM.out hd11 (by rw [HKX.out]; exact hz3) (by rw [HKX.out])
          rw [HKX.out] at hia
          refine ⟨hS1, HE.out.but hB1 (by omega), ?_, by have := HM.out; omega, by omega, by omega, HBC.out.trans hB1, (heap_set_ne (by omega)).trans HRC.out, by rw [World.size_setCell]; exact hzc, rfl, rfl, Nat.zero_le _, fun kid hk => by cases hk⟩
          rw [HM.out]
          exact hia)
        have e9 : (p : Int) + 1 = ((p + 1 : Nat) : Int) := by push_cast; rfl
        rw [← e9] at HK0
        obtain ⟨Wl, hWl⟩ : ∃ Wl, Wl = wc.setCell ⟨S, 1, none⟩ (.int .i64 ((p : Int) + 1)) := ⟨_, rfl⟩
        rw [← hWl] at HK0 ⊢
        clear hWl e9 hp1 a0' a1' a2' af' r0' r1' r2' r3' r4' rf' d1' d3' d4' e0 e1 e2 e3 e4 HE HSC HBC HRC hzc HM hz3 hm120
        have hih2 : ∀ W q sq, TkOn W S (.slice (some ⟨gt, 0, none⟩) xs.length jt) xs → StAt W S (.slice (some ⟨gt, 0, none⟩) xs.length jt) q sq → (hq : q < xs.length) → xs[q].1.kd = 1 → sq ≤ 120 → Calls Tryz.prog 22 #[.pointer (some ⟨S, 0, none⟩), .int .i64 ((deep + 1 : Nat) : Int)] W (InsPost xs S (.slice (some ⟨gt, 0, none⟩) xs.length jt) q (deep + 1) sq W) := fun W q sq a1 a2 a3 a4 a5 => HIH.out (deep + 1) W S _ q sq (by omega) (by omega) a1 a2 a3 a4 a5
        refine inc_loop hSl hxl hd11 HOK.out HT.out hih2 HK0.out _ _ _ _ _ _ _ _ _ _ _ _ _ _ _ _ _ _ _ _ _ _ _ _ _ _ _ _ _ _ _ _ _ _ _ _ _ _ _ _ _ _ _ _ _ _ _ _ _ _ _ _ _ _ _ _ _ _ _ _ _ _ _ _ _ _ _ _ _ _ _ _ _ _ _ _ _ _ _ _ _ _ _ _ _ _ _ _ _ _ _ _ _ _ _ _ _ _ _ _ _ _ _ _ _ _ _ _ _ _ _ _ _ _ _ _ _ _ _ _ _ _ _ _ _ _ _ _ _ _ _ _ _ _ _ _ _ _ _ _ _ _ _ _ _ _ _ _ _ _ _ _ _ _ _ _ _ _ _ _ _ _ _ _ _ _ _ _ _ _ _ _ _ _ _ _ _ _ _ _ _ _ _ _ _ _ _ _ _ _ ?_ ?_
        · intro a' w' h
          exact h
        · intro a' w' hX
          unfold InsWX at hX
          obtain ⟨u5, hX⟩ := hX
          obtain ⟨u8, hX⟩ := hX
          obtain ⟨u9, hX⟩ := hX
          obtain ⟨u10, hX⟩ := hX
          obtain ⟨u11, hX⟩ := hX
          obtain ⟨u59, hX⟩ := hX
          obtain ⟨u60, hX⟩ := hX
          obtain ⟨u61, hX⟩ := hX
          obtain ⟨u62, hX⟩ := hX
          obtain ⟨u63, hX⟩ := hX
          obtain ⟨u64, hX⟩ := hX
          obtain ⟨u65, hX⟩ := hX
          obtain ⟨u66, hX⟩ := hX
          obtain ⟨u67, hX⟩ := hX
          obtain ⟨u68, hX⟩ := hX
          obtain ⟨u69, hX⟩ := hX
          obtain ⟨u70, hX⟩ := hX
          obtain ⟨u71, hX⟩ := hX
          obtain ⟨u72, hX⟩ := hX
          obtain ⟨u73, hX⟩ := hX
          obtain ⟨u74, hX⟩ := hX
          obtain ⟨u75, hX⟩ := hX
          obtain ⟨u76, hX⟩ := hX
          obtain ⟨u77, hX⟩ := hX
          obtain ⟨u78, hX⟩ := hX
          obtain ⟨u79, hX⟩ := hX
          obtain ⟨u80, hX⟩ := hX
          obtain ⟨u81, hX⟩ := hX
          obtain ⟨u82, hX⟩ := hX
          obtain ⟨u83, hX⟩ := hX
          obtain ⟨u84, hX⟩ := hX
          obtain ⟨u85, hX⟩ := hX
          obtain ⟨u86, hX⟩ := hX
          obtain ⟨u87, hX⟩ := hX
          obtain ⟨u88, hX⟩ := hX
          obtain ⟨u89, hX⟩ := hX
          obtain ⟨u90, hX⟩ := hX
          obtain ⟨u91, hX⟩ := hX
          obtain ⟨u92, hX⟩ := hX
          obtain ⟨u93, hX⟩ := hX
          obtain ⟨u94, hX⟩ := hX
          obtain ⟨u95, hX⟩ := hX
          obtain ⟨u96, hX⟩ := hX
          obtain ⟨u97, hX⟩ := hX
          obtain ⟨u98, hX⟩ := hX
          obtain ⟨u99, hX⟩ := hX
          obtain ⟨u100, hX⟩ := hX
          obtain ⟨u101, hX⟩ := hX
          obtain ⟨u102, hX⟩ := hX
          obtain ⟨u103, hX⟩ := hX
          obtain ⟨u104, hX⟩ := hX
          obtain ⟨u105, hX⟩ := hX
          obtain ⟨u106, hX⟩ := hX
          obtain ⟨u107, hX⟩ := hX
          obtain ⟨u108, hX⟩ := hX
          obtain ⟨u109, hX⟩ := hX
          obtain ⟨u110, hX⟩ := hX
          obtain ⟨u111, hX⟩ := hX
          obtain ⟨u112, hX⟩ := hX
          obtain ⟨u113, hX⟩ := hX
          obtain ⟨u114, hX⟩ := hX
          obtain ⟨u115, hX⟩ := hX
          obtain ⟨u116, hX⟩ := hX
          obtain ⟨u117, hX⟩ := hX
          obtain ⟨u118, hX⟩ := hX
          obtain ⟨u119, hX⟩ := hX
          obtain ⟨u120, hX⟩ := hX
          obtain ⟨u121, hX⟩ := hX
          obtain ⟨u122, hX⟩ := hX
          obtain ⟨u123, hX⟩ := hX
          obtain ⟨u124, hX⟩ := hX
          obtain ⟨u125, hX⟩ := hX
          obtain ⟨u126, hX⟩ := hX
          obtain ⟨u127, hX⟩ := hX
          obtain ⟨u128, hX⟩ := hX
          obtain ⟨u129, hX⟩ := hX
          obtain ⟨u130, hX⟩ := hX
          obtain ⟨u131, hX⟩ := hX
          obtain ⟨u132, hX⟩ := hX
          obtain ⟨u133, hX⟩ := hX
          obtain ⟨u134, hX⟩ := hX
          obtain ⟨u135, hX⟩ := hX
          obtain ⟨u136, hX⟩ := hX
          obtain ⟨u137, hX⟩ := hX
          obtain ⟨u138, hX⟩ := hX
          obtain ⟨u139, hX⟩ := hX
          obtain ⟨u140, hX⟩ := hX
          obtain ⟨u141, hX⟩ := hX
          obtain ⟨u142, hX⟩ := hX
          obtain ⟨u143, hX⟩ := hX
          obtain ⟨u144, hX⟩ := hX
          obtain ⟨u145, hX⟩ := hX
          obtain ⟨u146, hX⟩ := hX
          obtain ⟨u147, hX⟩ := hX
          obtain ⟨u148, hX⟩ := hX
          obtain ⟨u149, hX⟩ := hX
          obtain ⟨u150, hX⟩ := hX
          obtain ⟨u151, hX⟩ := hX
          obtain ⟨u152, hX⟩ := hX
          obtain ⟨u153, hX⟩ := hX
          obtain ⟨u154, hX⟩ := hX
          obtain ⟨u155, hX⟩ := hX
          obtain ⟨u156, hX⟩ := hX
          obtain ⟨u157, hX⟩ := hX
          obtain ⟨u158, hX⟩ := hX
          obtain ⟨u159, hX⟩ := hX
          obtain ⟨u160, hX⟩ := hX
          obtain ⟨u161, hX⟩ := hX
          obtain ⟨u162, hX⟩ := hX
          obtain ⟨u163, hX⟩ := hX
          obtain ⟨u164, hX⟩ := hX
          obtain ⟨u165, hX⟩ := hX
          obtain ⟨u166, hX⟩ := hX
          obtain ⟨u167, hX⟩ := hX
          obtain ⟨u168, hX⟩ := hX
          obtain ⟨u169, hX⟩ := hX
          obtain ⟨u170, hX⟩ := hX
          obtain ⟨u171, hX⟩ := hX
          obtain ⟨u172, hX⟩ := hX
          obtain ⟨u173, hX⟩ := hX
          obtain ⟨u174, hX⟩ := hX
          obtain ⟨u175, hX⟩ := hX
          obtain ⟨u176, hX⟩ := hX
          obtain ⟨u177, hX⟩ := hX
          obtain ⟨u178, hX⟩ := hX
          obtain ⟨u179, hX⟩ := hX
          obtain ⟨u180, hX⟩ := hX
          obtain ⟨u181, hX⟩ := hX
          obtain ⟨u182, hX⟩ := hX
          obtain ⟨u183, hX⟩ := hX
          obtain ⟨u184, hX⟩ := hX
          obtain ⟨u185, hX⟩ := hX
          obtain ⟨u186, hX⟩ := hX
          obtain ⟨u187, hX⟩ := hX
          obtain ⟨u188, hX⟩ := hX
          obtain ⟨u189, hX⟩ := hX
          obtain ⟨u190, hX⟩ := hX
          obtain ⟨u191, hX⟩ := hX
          obtain ⟨⟨p', sz', va, vk, n, hK, hge⟩, rfl⟩ := hX
          have hrs := hK.rs
          have HK := Lib.hid hK
          have r0 : w'.cell? ⟨w.heap.size, 0, none⟩ = some (.int .i64 0) := by simp [World.cell?, hrs]
          have r1 : w'.cell? ⟨w.heap.size, 1, none⟩ = some (.string ⟨#[]⟩) := by simp [World.cell?, hrs]
          have r2 : w'.cell? ⟨w.heap.size, 2, none⟩ = some (.string ⟨#[]⟩) := by simp [World.cell?, hrs]
          have r3 : w'.cell? ⟨w.heap.size, 3, none⟩ = some (.slice none 0 0) := by simp [World.cell?, hrs]
          have r4 : w'.cell? ⟨w.heap.size, 4, none⟩ = some (.slice none 0 0) := by simp [World.cell?, hrs]
          have rf : ∀ i, w'.frozen? ⟨w.heap.size, i, none⟩ = false := fun i => by simp [World.frozen?, hrs]
          clear hrs hK
          go_wp2_with fail
          refine end_nd2 Tryz.results22 _ w.heap.size (kd := 0) (n := ⟨#[]⟩) (t := ⟨#[]⟩) (va := .slice none 0 0) (vk := .slice none 0 0) ⟨_, _, _, rfl⟩ ⟨_, _, _, rfl⟩ ⟨by go_simp, by go_simp, by go_simp, by go_simp, by go_simp⟩ rfl rfl rfl ?_
          refine InsPost.no 16 (by decide) (HK.out.bt.low rfl hSl ?_) (at_out HK.out.ia (by rw [List.length_map]; omega))
          exact ((((((Below.refl w.heap.size w').setCell (p := ⟨w.heap.size, 0, none⟩) (Nat.le_refl _) _).setCell (p := ⟨w.heap.size, 1, none⟩) (Nat.le_refl _) _).setCell (p := ⟨w.heap.size, 2, none⟩) (Nat.le_refl _) _).setCell (p := ⟨w.heap.size, 3, none⟩) (Nat.le_refl _) _).setCell (p := ⟨w.heap.size, 4, none⟩) (Nat.le_refl _) _)
end Go.Proofs.YtognlnjamlhmhaaGreatDoor.Char
