package boot

import "strings"

// Words of a field's text that are no names.
const (
	optional   = "optional"
	repeated   = "repeated"
	extensions = "extensions"
)

// message is a row of the table.
type message struct {
	name     string
	fields   []field
	extended bool // whether others may add fields to it
}

// field is one in words.
type field struct {
	label, typed, name, number string
}

// row puts a message together from texts: `string name 1`, with `repeated` ahead or not, or `extensions`.
func row(name string, texts ...string) message {
	m := message{name: name}
texts:
	for _, text := range texts {
		f := field{label: optional}
		for _, word := range strings.Fields(text) {
			switch {
			case word == extensions:
				m.extended = true
				continue texts
			case word == repeated:
				f.label = repeated
			case f.typed == "":
				f.typed = word
			case f.name == "":
				f.name = word
			default:
				f.number = word
			}
		}
		m.fields = append(m.fields, f)
	}
	return m
}

// table answers all messages.
func table() []message {
	return append(descriptions(), options()...)
}

func descriptions() []message {
	return []message{
		row("FileDescriptorSet", "repeated FileDescriptorProto file 1"),
		row("FileDescriptorProto", "string name 1", "string package 2", "repeated string dependency 3", "repeated DescriptorProto message_type 4", "repeated EnumDescriptorProto enum_type 5",
			"repeated ServiceDescriptorProto service 6", "repeated FieldDescriptorProto extension 7", "FileOptions options 8", "repeated int32 public_dependency 10", "string syntax 12"),
		row("DescriptorProto", "string name 1", "repeated FieldDescriptorProto field 2", "repeated DescriptorProto nested_type 3", "repeated EnumDescriptorProto enum_type 4", "repeated RangeProto extension_range 5",
			"repeated FieldDescriptorProto extension 6", "MessageOptions options 7", "repeated OneofDescriptorProto oneof_decl 8", "repeated RangeProto reserved_range 9", "repeated string reserved_name 10"),
		row("RangeProto", "int64 start 1", "int64 end 2"),
		row("FieldDescriptorProto", "string name 1", "string extendee 2", "int64 number 3", "int32 label 4", "int32 type 5", "string type_name 6",
			"string default_value 7", "FieldOptions options 8", "int32 oneof_index 9", "string json_name 10", "bool proto3_optional 17"),
		row("OneofDescriptorProto", "string name 1", "OneofOptions options 2"),
		row("EnumDescriptorProto", "string name 1", "repeated EnumValueDescriptorProto value 2", "EnumOptions options 3"),
		row("EnumValueDescriptorProto", "string name 1", "int64 number 2", "EnumValueOptions options 3"),
		row("ServiceDescriptorProto", "string name 1", "repeated MethodDescriptorProto method 2", "ServiceOptions options 3"),
		row("MethodDescriptorProto", "string name 1", "string input_type 2", "string output_type 3", "MethodOptions options 4", "bool client_streaming 5", "bool server_streaming 6"),
	}
}

func options() []message {
	return []message{
		row("FileOptions", "string java_package 1", "bool deprecated 23", extensions),
		row("MessageOptions", "bool deprecated 3", "bool map_entry 7", extensions),
		row("FieldOptions", "bool packed 2", "bool deprecated 3", extensions),
		row("OneofOptions", extensions),
		row("EnumOptions", "bool deprecated 3", extensions),
		row("EnumValueOptions", "bool deprecated 1", extensions),
		row("ServiceOptions", "bool deprecated 33", extensions),
		row("MethodOptions", "bool deprecated 33", extensions),
	}
}
